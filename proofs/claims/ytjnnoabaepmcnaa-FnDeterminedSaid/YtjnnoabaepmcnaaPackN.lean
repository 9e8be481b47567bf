/-
  Texts of this claim, one behind the other: SrA, Srch, Pth, Path, SwH, Rev, ColS, Eq, Same, Put, Dist, SpecD, SameS, SameB, PTo, Fnd, PToS, SpecP, Apl, SwS, SwsS, SwE, VisA, Visit, PathL, Pair, Alike, TwoR.
-/
import Derived.Test.YtjnnoabaepmcnaaPackM
import Derived.Test.YtjnnoabaepmcnaaPackI
import Derived.Deep.MidRow
import Derived.WalkMore
import Derived.Deep.LoopGhost
import Derived.Test.YtjnnoabaepmcnaaPackA
import Derived.Test.YtjnnoabaepmcnaaPackC
import Derived.RegionTactic
import Derived.BigRegion
import Derived.Test.YtjnnoabaepmcnaaPackL
import Derived.Test.YtjnnoabaepmcnaaPackH
import Derived.Laws.OwnMore
import Derived.Great.BuildSlice
/-
  What the search meets: images as keys, a queue of images, the map of the last switches.
-/
namespace Go.Proofs.Ytjnnoabaepmcnaa
open Go.RowKit
set_option maxRecDepth 100000

theorem vec_inj {n : Nat} {F G : Nat → Int} (h : vec n F = vec n G) : ∀ i, i < n → F i = G i := fun i hi => by
  have h1 := vec_at n F i hi
  rw [h, vec_at n G i hi] at h1
  simpa using h1.symm
/-- The cells of an image, by number. -/
def imgC (R C : Nat) (x : List (List Int)) : Nat → Int := imgF R C (cellM x)
theorem imgC_mk (R C : Nat) (f : Nat → Nat → Int) : imgC R C (mkM R C f) = imgF R C f := by
  funext i
  unfold imgC imgF
  by_cases h : i / 5 < R ∧ i % 5 < C
  · rw [if_pos h, if_pos h]; exact cell_mk R C f h.1 h.2
  · rw [if_neg h, if_neg h]
theorem imgC_wf {R C : Nat} {x : List (List Int)} (h : Node R C x) : WfI (imgC R C x) := by
  obtain ⟨f, rfl, hI⟩ := h
  rw [imgC_mk]; exact fun i => imgF_range hI i
theorem imgC_inj {R C : Nat} {x y : List (List Int)} (hx : Node R C x) (hy : Node R C y) (h : vec 25 (imgC R C x) = vec 25 (imgC R C y)) : x = y := by
  obtain ⟨f, rfl, hI⟩ := hx
  obtain ⟨g, rfl, -⟩ := hy
  have h5 := hI.r2; have h6 := hI.c2
  rw [imgC_mk, imgC_mk] at h
  exact mkM_congr fun y x hy hx => by
    have h1 := vec_inj h (5 * y + x) (by omega)
    rw [imgF_at R C f y x (by omega), imgF_at R C g y x (by omega), if_pos ⟨hy, hx⟩, if_pos ⟨hy, hx⟩] at h1
    exact h1
/-- Whether two images are the same. -/
theorem img_key2 {F : Nat → Int} (h : WfI F) : ∃ L, Try.prog.keyLits (Try.prog.types.size + 1) 56 (vecL 25 F) = some L ∧ (Value.agg (vec 25 F)).formed Try.prog 56 = true ∧ keyOf Try.prog 56 (.agg (vec 25 F)) = some (.string (keyBytes L)) := by
  have hs : ∃ d, Try.prog.types.size + 1 = d + 3 := ⟨Try.prog.types.size - 2, by have : 3 ≤ Try.prog.types.size := of_decide_eq_true (by kernel_rfl); omega⟩
  obtain ⟨d, hd⟩ := hs
  obtain ⟨L, hL⟩ := imgLitM d F (wfI_lit h)
  have hf : (Value.agg (vec 25 F)).formed Try.prog 56 = true := by
    simp [Value.formed, Try.underlying56, Try.cellsImg, vec_size]
  have hc : (Value.agg (vec 25 F)).cells.toList = vecL 25 F := by simp [Value.cells, vec]
  refine ⟨L, by rw [hd]; exact hL, hf, ?_⟩
  unfold keyOf
  rw [Try.underlying56]
  simp only [Try.keyTyM, hf, Bool.and_self, if_true, hc, hd, hL, Option.map_some]
theorem run_eqImg {F G : Nat → Int} (hF : WfI F) (hG : WfI G) (b : Bool) (hb : b = true ↔ vec 25 F = vec 25 G) (w : World) : (binOp .eql 56 (.agg (vec 25 F)) (.agg (vec 25 G))).run Try.prog w = .ok (.bool b) w := by
  obtain ⟨la, ha, fa, ka⟩ := img_key2 hF
  obtain ⟨lb, hl, fb, kb⟩ := img_key2 hG
  have hm : Try.prog.types.size + 1 ≤ 10000 := of_decide_eq_true (by kernel_rfl)
  obtain ⟨r, hr, hiff⟩ := run_equalIn_deep (10000 - (Try.prog.types.size + 1)) (Try.prog.types.size + 1) 56 Try.keyTyM w _ _ (.agg (vec 25 F)) (.agg (vec 25 G)) la lb fa fb (by rw [show (Value.agg (vec 25 F)).cells.toList = vecL 25 F by simp [Value.cells, vec]]; exact ha) (by rw [show (Value.agg (vec 25 G)).cells.toList = vecL 25 G by simp [Value.cells, vec]]; exact hl)
  rw [show 10000 - (Try.prog.types.size + 1) + (Try.prog.types.size + 1) = 10000 by omega] at hr
  have he : r = b := by
    rw [Bool.eq_iff_iff, hiff, hb]
    constructor
    · intro e
      subst e
      have := Try.imgLaw.inj ka kb
      simpa using this
    · intro e
      have e2 : vecL 25 F = vecL 25 G := by simpa [vec] using e
      rw [e2, hl] at ha
      exact (Option.some.inj ha).symm
  rw [← he]
  simp only [binOp]
  simp [Op.equal, Op.maxDepth, hr]

/-- The cells of images, one behind the other. -/
def queL (R C : Nat) (l : List (List (List Int))) : List Value := l.flatMap fun x => vecL 25 (imgC R C x)
theorem queL_nil (R C : Nat) : queL R C [] = [] := rfl
theorem queL_cons (R C : Nat) (x : List (List Int)) (l : List (List (List Int))) : queL R C (x :: l) = vecL 25 (imgC R C x) ++ queL R C l := by simp [queL]
theorem queL_snoc (R C : Nat) (x : List (List Int)) (l : List (List (List Int))) : queL R C (l ++ [x]) = queL R C l ++ vecL 25 (imgC R C x) := by simp [queL]
theorem queL_tail (R C : Nat) (l : List (List (List Int))) {a : Nat} (h : a < l.length) : (queL R C (l.drop a)).drop 25 = queL R C (l.drop (a + 1)) := by
  rw [List.drop_eq_getElem_cons h, queL_cons, List.drop_append_of_le_length (by rw [vecL_len]; exact Nat.le_refl _), List.drop_of_length_le (by rw [vecL_len]; exact Nat.le_refl _), List.nil_append]
theorem queL_head {R C : Nat} {l : List (List (List Int))} {a : Nat} (h : a < l.length) : queL R C (l.drop a) = vecL 25 (imgC R C (l.getD a [])) ++ queL R C (l.drop (a + 1)) := by
  rw [List.drop_eq_getElem_cons h, queL_cons]
  simp [List.getD_eq_getElem?_getD, List.getElem?_eq_getElem h]
theorem ownQ_head {w : World} {base n : Nat} {v : Value} {F : Nat → Int} {ys : List Value} (h : OwnQ w base 56 25 v (n + 1) (vecL 25 F ++ ys)) :
    ∃ g o cap, v = .slice (some ⟨g, o, none⟩) (n + 1) cap ∧ n + 1 ≤ cap ∧ base ≤ g ∧ g < w.heap.size ∧ w.rangeAt g o (vecL 25 F) := by
  obtain ⟨g, o, cap, rfl, h1, -, h2, h3, h4⟩ := ownQ_slice h
  refine ⟨g, o, cap, rfl, h1, h2, h3, fun j u hj => ?_⟩
  have hj' : j < 25 := by have := (List.getElem?_eq_some_iff.1 hj).1; rwa [vecL_len] at this
  rw [h4 j (by omega), List.getElem?_append_left (by rw [vecL_len]; exact hj')]
  exact hj
/-- The last switch of a list. -/
def lastS (p : List Sw) : Sw := p.getLastD zeroSw
theorem lastS_snoc (p : List Sw) (s : Sw) : lastS (p ++ [s]) = s := by simp [lastS]
/-- The entries of the map. -/
def ksOf (R C : Nat) (L : List (List (List Int))) (W : List (List Sw)) : List ((Nat → Int) × Sw) := (List.range L.length).map fun i => (imgC R C (L.getD i []), lastS (W.getD i []))
theorem ksOf_len (R C : Nat) (L : List (List (List Int))) (W : List (List Sw)) : (ksOf R C L W).length = L.length := by simp [ksOf]
theorem ksOf_snoc {R C : Nat} {L : List (List (List Int))} {W : List (List Sw)} (hl : W.length = L.length) (x : List (List Int)) (p : List Sw) : ksOf R C (L ++ [x]) (W ++ [p]) = ksOf R C L W ++ [(imgC R C x, lastS p)] := by
  unfold ksOf
  rw [List.length_append, List.length_singleton, List.range_succ, List.map_append]
  have e1 := getD_snoc_eq W p []
  rw [hl] at e1
  rw [List.map_singleton, getD_snoc_eq, e1]
  congr 1
  refine List.map_congr_left fun i hi => ?_
  have hi := List.mem_range.1 hi
  rw [getD_snoc_lt _ _ _ hi, getD_snoc_lt _ _ _ (by rw [hl]; exact hi)]
theorem ksOf_mem {R C : Nat} {L : List (List (List Int))} {W : List (List Sw)} {p : (Nat → Int) × Sw} (h : p ∈ ksOf R C L W) : ∃ i, i < L.length ∧ p = (imgC R C (L.getD i []), lastS (W.getD i [])) := by
  unfold ksOf at h
  obtain ⟨i, hi, rfl⟩ := List.mem_map.1 h
  exact ⟨i, List.mem_range.1 hi, rfl⟩
theorem ksOf_at {R C : Nat} {L : List (List (List Int))} {W : List (List Sw)} {i : Nat} (h : i < L.length) : (imgC R C (L.getD i []), lastS (W.getD i [])) ∈ ksOf R C L W := List.mem_map.2 ⟨i, List.mem_range.2 h, rfl⟩
section
variable {R C : Nat} {m : List (List Int)} {L : List (List (List Int))} {W : List (List Sw)} {a K : Nat}
theorem ksOf_wf (hm : Node R C m) (h : Bfs m L W a K) : ∀ p ∈ ksOf R C L W, WfI p.1 := fun p hp => by
  obtain ⟨i, hi, rfl⟩ := ksOf_mem hp
  exact imgC_wf (bfs_node hm h hi)
theorem ksOf_in (hm : Node R C m) (h : Bfs m L W a K) {x : List (List Int)} (hx : Node R C x) : (∃ p ∈ ksOf R C L W, vec 25 p.1 = vec 25 (imgC R C x)) ↔ x ∈ L := by
  constructor
  · rintro ⟨p, hp, e⟩
    obtain ⟨i, hi, rfl⟩ := ksOf_mem hp
    rw [← imgC_inj (bfs_node hm h hi) hx e]
    exact getD_mem hi
  · intro hx
    obtain ⟨i, hi, rfl⟩ := mem_getD [] hx
    exact ⟨_, ksOf_at hi, rfl⟩
end
/-- The number of the switch before number k. -/
def befS (S : List Sw) : Nat → Nat
  | 0 => 0
  | k + 1 => numS (S.getD k zeroSw)
theorem sws_up (x : List (List Int)) : (swsM x).Pairwise fun s t => numS s < numS t := by
  unfold swsM upS
  rw [List.pairwise_map]
  exact (List.pairwise_lt_range.filter _).imp fun h => by rw [num_dec, num_dec]; omega
theorem sws_num {x : List (List Int)} {i j : Nat} (hij : i < j) (hj : j < (swsM x).length) : numS ((swsM x).getD i zeroSw) < numS ((swsM x).getD j zeroSw) := by
  have h := List.pairwise_iff_getElem.1 (sws_up x) i j (by omega) hj hij
  rw [List.getD_eq_getElem?_getD, List.getD_eq_getElem?_getD, List.getElem?_eq_getElem hj, List.getElem?_eq_getElem (show i < (swsM x).length by omega)]
  exact h
theorem befS_le {x : List (List Int)} {k : Nat} (hk : k < (swsM x).length) : befS (swsM x) k ≤ numS ((swsM x).getD k zeroSw) := by
  cases k with
  | zero => exact Nat.zero_le _
  | succ k => exact Nat.le_of_lt (sws_num (Nat.lt_succ_self k) hk)
theorem befS_all {R C : Nat} {x : List (List Int)} (hx : Node R C x) {k : Nat} (hk : k < (swsM x).length) : ∀ s, swB x s = true → numS s < numS ((swsM x).getD k zeroSw) → numS s ≤ befS (swsM x) k := fun s hs hn => by
  obtain ⟨i, hi, rfl⟩ := mem_getD zeroSw ((sws_mem hx).2 hs)
  have hik : i < k := by
    rcases Nat.lt_trichotomy i k with h | rfl | h
    · exact h
    · omega
    · have := sws_num h hi; omega
  obtain ⟨q, rfl⟩ : ∃ q, k = q + 1 := ⟨k - 1, by omega⟩
  show numS _ ≤ numS _
  by_cases e : i = q
  · subst e; exact Nat.le_refl _
  · exact Nat.le_of_lt (sws_num (show i < q by omega) (by omega))
theorem befS_end {R C : Nat} {x : List (List Int)} (hx : Node R C x) : befS (swsM x) (swsM x).length ≤ 625 ∧ ∀ s, swB x s = true → numS s ≤ befS (swsM x) (swsM x).length := by
  cases hl : (swsM x).length with
  | zero =>
    refine ⟨Nat.zero_le _, fun s hs => ?_⟩
    have := (sws_mem hx).2 hs
    rw [List.eq_nil_of_length_eq_zero hl] at this
    cases this
  | succ k =>
    have hm : (swsM x).getD k zeroSw ∈ swsM x := getD_mem (by omega)
    obtain ⟨i, hi, e⟩ := swB_num hx ((sws_mem hx).1 hm)
    refine ⟨by show numS _ ≤ 625; rw [e, num_dec]; omega, fun s hs => ?_⟩
    obtain ⟨j, hj, rfl⟩ := mem_getD zeroSw ((sws_mem hx).2 hs)
    show numS _ ≤ numS _
    by_cases e : j = k
    · subst e; exact Nat.le_refl _
    · exact Nat.le_of_lt (sws_num (show j < k by omega) (by omega))
theorem sws_at {R C : Nat} {x : List (List Int)} (hx : Node R C x) {k : Nat} (hk : k < (swsM x).length) : swB x ((swsM x).getD k zeroSw) = true := (sws_mem hx).1 (getD_mem hk)
end Go.Proofs.Ytjnnoabaepmcnaa
/-
  searched of the program: a search in breadth.
-/
namespace Go.Proofs.Ytjnnoabaepmcnaa
open Go.RowKit

/-- What stands through the search. -/
def SrSt (w : World) (R C : Nat) (t : List (List Int)) (L : List (List (List Int))) (W : List (List Sw)) (a n : Nat) (q : Value) (w' : World) : Prop :=
  OwnQ w' (w.heap.size + 3) 56 25 q n (queL R C (L.drop a)) ∧ ImgMap w' (w.heap.size + 2) (ksOf R C L W) ∧ Blk w' (w.heap.size + 1) 56 25 (imgC R C t) ∧ w.heap.size + 3 ≤ w'.heap.size ∧ Below w.heap.size w w'
theorem sr_below {w w1 w2 : World} {R C : Nat} {t : List (List Int)} {L : List (List (List Int))} {W : List (List Sw)} {a n : Nat} {q : Value} (h : SrSt w R C t L W a n q w1) (hb : Below w1.heap.size w1 w2) : SrSt w R C t L W a n q w2 :=
  ⟨ownQ_below h.1 hb, imgMap_below h.2.1 hb, blk_below h.2.2.1 hb, Nat.le_trans h.2.2.2.1 hb.size, h.2.2.2.2.trans (hb.mono h.2.2.2.2.size)⟩
/-- What the search answers. -/
def SrRes (R C : Nat) (m t : List (List Int)) (w : World) (e : Ending) (w' : World) : Prop :=
  e = .returned (.map (some (w.heap.size + 2))) ∧ ∃ L W a K, Bfs m L W a K ∧ t ∈ L ∧ ImgMap w' (w.heap.size + 2) (ksOf R C L W) ∧ Below w.heap.size w w' ∧ (t = m → a = L.length)
theorem Try.infoImg : (Try.prog.info? 56).map (fun i => (i.zero, i.size, i.bytes)) = some (some (.agg (vec 25 fun _ => 0)), 25, 200) := by kernel_rfl
def mapLen (w : World) (b : Nat) : Nat := match w.heap[b]? with | some (.map es _) => es.size | _ => 0
theorem mapLen_of {w : World} {b : Nat} {ks : List ((Nat → Int) × Sw)} (h : ImgMap w b ks) : mapLen w b = ks.length := by
  obtain ⟨es, c, hb, hk, -⟩ := h
  unfold mapLen
  rw [hb]
  have := congrArg List.length hk
  simpa using this
def lenV : Value → Nat
  | .slice _ n _ => n
  | _ => 0
theorem ownQ_lenV {w : World} {base e z n : Nat} {v : Value} {xs : List Value} (h : OwnQ w base e z v n xs) : lenV v = n := by
  obtain ⟨-, g, o, cap, cur, rfl, -⟩ := h; rfl
theorem wpList_tail {P : Program} {ops : Array Oper} {rest : List Oper} {o : Oper} {a : Act} {Q : Exit → Act → World → Prop} {W : World} {base E T n z : Nat} {v : Value} {xs : List Value} (h : OwnQ W base E z v (n + 1) xs)
    (d : Tmp) (_hd : o.dst = some d) (hgd : o.guard = none) (x : Operand) (ho : o.op = .slice T x (some (.const (.int .i64 1))) none none) (hx : a.eval x = v) (hu : P.underlying T = some (.slice E)) (hs : ∀ w, (sizeOf E).run P w = .ok z w)
    (hK : ∀ v', OwnQ W base E z v' n (xs.drop z) → wpList P ops Q rest (a.put o.dst v') W) : wpList P ops Q (o :: rest) a W := by
  refine wpList_plain hgd fun K hk => ?_
  obtain ⟨h0, g, q, cap, cur, rfl, hr⟩ := id h
  unfold Oper.wp
  rw [exec_tail ho rfl hx hr.2.2.1 hu hs]
  exact hk _ _ (hK _ (ownQ_tail h))
theorem wpList_loadQ {P : Program} {ops : Array Oper} {rest : List Oper} {o : Oper} {a : Act} {Q : Exit → Act → World → Prop} {W : World} {g k : Nat} {T : TypeId} {d : TypeDesc} {F : Nat → Int} (h : W.rangeAt g k (vecL 25 F))
    (t : Tmp) (_hd : o.dst = some t) (hgd : o.guard = none) (x : Operand) (ho : o.op = .load T x) (hx : a.eval x = .pointer (some ⟨g, k, none⟩)) (hu : P.underlying T = some d) (hr : d.isRow = true) (hi : (P.info? T).map (·.size) = some 25)
    (hK : wpList P ops Q rest (a.put o.dst (.agg (vec 25 F))) W) : wpList P ops Q (o :: rest) a W :=
  wpList_load_mid hgd T x ho g k hx (vecL 25 F) d h hu hr (by rw [hi, vecL_len]) hK
theorem exec_loadQ {P : Program} {ρ : Operand → Value} {o : Oper} {W : World} {g k : Nat} {T : TypeId} {d : TypeDesc} {F : Nat → Int} {x : Operand} (h : W.rangeAt g k (vecL 25 F)) (ho : o.op = .load T x) (hx : ρ x = .pointer (some ⟨g, k, none⟩)) (hu : P.underlying T = some d) (hr : d.isRow = true) (hi : (P.info? T).map (·.size) = some 25) :
    (execOp ρ o).run P W = .ok (.value (.agg (vec 25 F))) W := by
  unfold execOp
  simp only [ho, hx]
  rw [Sem.run_bind, run_loadAt_mid W g k T (vecL 25 F) d h hu hr (by rw [hi, vecL_len])]
  rfl
theorem exec_allocV {P : Program} {ρ : Operand → Value} {o : Oper} {w : World} {T : TypeId} (n : Nat) (ho : o.op = .alloc T) (hz : ∀ w, (zeroValue T).run P w = .ok (.agg (vec n fun _ => 0)) w) :
    (execOp ρ o).run P w = .ok (.value (.pointer (some ⟨w.heap.size, 0, none⟩))) (w.alloc (.cells (vec n fun _ => 0) T)) := by
  unfold execOp
  simp only [ho, Instr.alloc, Sem.run_bind, hz, Result.andThen_ok]
  rfl
theorem exec_storeV {P : Program} {W : World} {g n : Nat} {T T' : TypeId} {F0 : Nat → Int} (F : Nat → Int) (hb : Blk W g T n F0) (hi : (P.info? T').map (·.size) = some n) :
    ∃ w', (∀ (ρ : Operand → Value) (o : Oper) (x y : Operand), o.op = .store T' x y → ρ x = .pointer (some ⟨g, 0, none⟩) → ρ y = .agg (vec n F) → (execOp ρ o).run P W = .ok .skip w') ∧ Blk w' g T n F ∧ W.grownBy w' (some g) ∧ w'.heap.size = W.heap.size := by
  refine ⟨_, fun ρ o x y ho hx hy => ?_, setRow_heap W g _ (vec n F) T (0, 0) hb, ⟨rfl, rfl, rfl, by simp, fun k hk hr => setRow_other W g k _ (fun e => hr (by rw [e]))⟩, by simp⟩
  unfold execOp
  simp only [ho, hx, hy, Instr.storeAt, Instr.sureAddr, Sem.run_bind, Sem.run_pure, Result.andThen_ok, run_storeVar_row W g T T' (vec n F0) (vec n F) hb (by rw [hi, vec_size]) (by simp [vec_size]) (vec_one n F)]
/-- A new image, in a block from B on. -/
def newB (B : Nat) : FactP := fun u w2 => ∃ G, u = .pointer (some ⟨G, 0, none⟩) ∧ B ≤ G ∧ Blk w2 G 56 25 fun _ => 0
theorem stable_newB (B : Nat) : StableP (newB B) := fun _ _ _ hb h => ⟨h.choose, h.choose_spec.1, h.choose_spec.2.1, blk_below h.choose_spec.2.2 hb⟩
theorem range_below {w w' : World} {g k : Nat} {cs : List Value} (h : w.rangeAt g k cs) (hb : Below w.heap.size w w') (hg : g < w.heap.size) : w'.rangeAt g k cs := fun j v hj => below_cell hb hg (h j v hj)
theorem zImg_cells : (Value.agg (vec 25 fun _ => 0)).cells.size = 25 := vec_size _ _
theorem start_facts (w : World) (F G : Nat → Int) : Blk (((w.alloc (.cells (vec 25 F) 56)).alloc (.cells (vec 25 G) 56)).alloc (.map #[] 0)) w.heap.size 56 25 F ∧
    Blk (((w.alloc (.cells (vec 25 F) 56)).alloc (.cells (vec 25 G) 56)).alloc (.map #[] 0)) (w.heap.size + 1) 56 25 G ∧
    ImgMap (((w.alloc (.cells (vec 25 F) 56)).alloc (.cells (vec 25 G) 56)).alloc (.map #[] 0)) (w.heap.size + 1 + 1) [] ∧
    Below w.heap.size w (((w.alloc (.cells (vec 25 F) 56)).alloc (.cells (vec 25 G) 56)).alloc (.map #[] 0)) ∧
    (((w.alloc (.cells (vec 25 F) 56)).alloc (.cells (vec 25 G) 56)).alloc (.map #[] 0)).heap.size = w.heap.size + 3 := by
  obtain ⟨w1, h1⟩ : ∃ w1, w1 = w.alloc (.cells (vec 25 F) 56) := ⟨_, rfl⟩
  have a1 : Below w.heap.size w w1 := by rw [h1]; exact (Below.refl _ _).alloc (Nat.le_refl _) _
  have b1 : Blk w1 w.heap.size 56 25 F := by rw [h1]; exact heap_alloc_new w _
  have s1 : w1.heap.size = w.heap.size + 1 := by rw [h1]; simp
  rw [← h1]
  clear h1
  obtain ⟨w2, h2⟩ : ∃ w2, w2 = w1.alloc (.cells (vec 25 G) 56) := ⟨_, rfl⟩
  have a2 : Below w1.heap.size w1 w2 := by rw [h2]; exact (Below.refl _ _).alloc (Nat.le_refl _) _
  have b2 : Blk w2 w1.heap.size 56 25 G := by rw [h2]; exact heap_alloc_new w1 _
  have s2 : w2.heap.size = w1.heap.size + 1 := by rw [h2]; simp
  rw [← h2]
  clear h2
  have a3 := (Below.refl w2.heap.size w2).alloc (Nat.le_refl _) (.map #[] 0)
  have m3 := imgMap_made w2
  rw [s1] at b2
  rw [s2, s1] at m3
  exact ⟨blk_below (blk_below b1 a2) a3, blk_below b2 a3, m3, a1.trans ((a2.mono a1.size).trans (a3.mono (Nat.le_trans a1.size a2.size))), by simp; omega⟩
end Go.Proofs.Ytjnnoabaepmcnaa
/-
  pathTo of the program: from an image back to the first one, along the last switches.
-/
namespace Go.Proofs.Ytjnnoabaepmcnaa
open Go.RowKit
set_option maxRecDepth 100000

def Sw.wf (s : Sw) : Prop := (Lit.int .i64 s.y1).wf = true ∧ (Lit.int .i64 s.y2).wf = true ∧ (Lit.int .i64 s.x1).wf = true ∧ (Lit.int .i64 s.x2).wf = true
theorem intLitsM_mk (d : Nat) (x : Int) (h : (Lit.int .i64 x).wf = true) : Try.prog.keyLits (d + 1) 3 [.int .i64 x] = some [.int .i64 x] := by
  unfold Program.keyLits
  rw [Try.underlying3]
  simp only
  rw [if_pos ⟨trivial, h⟩]
theorem small_wf : ∀ n : Nat, n < 625 → (Lit.int .i64 (n : Int)).wf = true := by decide +kernel
theorem dec_wf {i : Nat} (h : i < 625) : (decS i).wf := by
  unfold decS Sw.wf
  exact ⟨small_wf _ (by omega), small_wf _ (by omega), small_wf _ (by omega), small_wf _ (by omega)⟩
theorem zero_wf : zeroSw.wf := ⟨rfl, rfl, rfl, rfl⟩
theorem swB_wf {R C : Nat} {x : List (List Int)} (hx : Node R C x) {s : Sw} (h : swB x s = true) : s.wf ∧ s ≠ zeroSw := by
  obtain ⟨i, hi, rfl⟩ := swB_num hx h
  refine ⟨dec_wf hi, fun e => ?_⟩
  rw [e] at h
  obtain ⟨f, rfl, hI⟩ := hx
  rw [swB_mk hI] at h
  obtain ⟨a, b, c, d, e1, h1⟩ := swF_iff.1 h
  obtain ⟨h2, -⟩ := four_iff.1 h1
  unfold zeroSw at e1
  simp only [Sw.mk.injEq] at e1
  omega
theorem tree_len {m : List (List Int)} {L : List (List (List Int))} {W : List (List Sw)} {a K : Nat} (h : Bfs m L W a K) : ∀ n i, i ≤ n → i < L.length → (W.getD i []).length ≤ i := by
  intro n
  induction n with
  | zero =>
    intro i hi hl
    rcases h.tree i hl with ⟨e, -⟩ | ⟨j, s, hj, -⟩
    · rw [e]; exact Nat.zero_le _
    · omega
  | succ n ih =>
    intro i hi hl
    rcases h.tree i hl with ⟨e, -⟩ | ⟨j, s, hj, e, -⟩
    · rw [e]; exact Nat.zero_le _
    · have := ih j (by omega) (by omega)
      rw [e, List.length_append, List.length_singleton]; omega
/-- The way of an image, and the one before it. -/
theorem tree_back {R C : Nat} {m : List (List Int)} {L : List (List (List Int))} {W : List (List Sw)} {a K : Nat} (hm : Node R C m) (h : Bfs m L W a K) {i : Nat} (hi : i < L.length) {n : Nat} (hn : (W.getD i []).length = n + 1) :
    ∃ j s, j < L.length ∧ W.getD i [] = W.getD j [] ++ [s] ∧ (W.getD j []).length = n ∧ swB (L.getD i []) s = true ∧ flipM (L.getD i []) s = L.getD j [] := by
  rcases h.tree i hi with ⟨e, -⟩ | ⟨j, s, hj, e1, e2, e3⟩
  · rw [e] at hn; simp at hn
  · have hj' : j < L.length := by omega
    have hN := bfs_node hm h hj'
    refine ⟨j, s, hj', e1, ?_, ?_, ?_⟩
    · rw [e1, List.length_append, List.length_singleton] at hn; omega
    · rw [e3]; exact swB_back hN e2
    · rw [e3]; exact flip_back hN s
end Go.Proofs.Ytjnnoabaepmcnaa
/-
  pathTo of the program, walked.
-/
namespace Go.Proofs.Ytjnnoabaepmcnaa
open Go.RowKit
set_option maxRecDepth 100000

end Go.Proofs.Ytjnnoabaepmcnaa
/-
  The exact laws' helpers at switches: toSwitch, toSwitchS, szSwitchS, markSwitchS, heldSwitchS.
-/
namespace Go.Proofs.Ytjnnoabaepmcnaa
open Go.RowKit

def set4 (xs : List Value) (k : Nat) (s : Sw) : List Value := (((xs.set k (.int .i64 s.y1)).set (k + 1) (.int .i64 s.y2)).set (k + 2) (.int .i64 s.x1)).set (k + 3) (.int .i64 s.x2)
theorem set4_len (xs : List Value) (k : Nat) (s : Sw) : (set4 xs k s).length = xs.length := by simp [set4]
theorem set4_fill {l : List Sw} {xs : List Value} {k : Nat} (h : xs.length = l.length * 4) (hk : k < l.length) : set4 (cellsS (l.take k) ++ xs.drop (k * 4)) (k * 4) l[k] = cellsS (l.take (k + 1)) ++ xs.drop ((k + 1) * 4) := by
  have hl : (cellsS (l.take k)).length = k * 4 := by rw [cellsS_len, List.length_take]; omega
  obtain ⟨a, b, c, d, r, hr⟩ : ∃ a b c d r, xs.drop (k * 4) = a :: b :: c :: d :: r := by
    have : 4 ≤ (xs.drop (k * 4)).length := by rw [List.length_drop]; omega
    match hx : xs.drop (k * 4), this with
    | a :: b :: c :: d :: r, _ => exact ⟨a, b, c, d, r, rfl⟩
  have hd : xs.drop ((k + 1) * 4) = r := by
    rw [show (k + 1) * 4 = k * 4 + 4 by omega, ← List.drop_drop, hr]; rfl
  rw [hd, hr, List.take_succ_eq_append_getElem hk, cellsS_snoc]
  unfold set4
  rw [List.set_append_right _ _ (by omega), List.set_append_right _ _ (by omega), List.set_append_right _ _ (by omega), List.set_append_right _ _ (by omega), hl]
  rw [show k * 4 - k * 4 = 0 by omega, show k * 4 + 1 - k * 4 = 1 by omega, show k * 4 + 2 - k * 4 = 2 by omega, show k * 4 + 3 - k * 4 = 3 by omega]
  simp [swA]
def SizeS (n left : Nat) (w : World) (e : Ending) (w' : World) : Prop := ∃ r : Int, e = .returned (.int .i64 r) ∧ ((r = -1) ∨ (n ≤ left ∧ r = (left - n : Nat))) ∧ w = w'
/-- The cells are marked one after the other. -/
theorem mark_cell (q j m : Nat) (xs : List Value) (hl : xs.length = m) (hj : j < m) : (ints (markR j q) ++ xs.drop j).set j (.int .i64 ((q + j : Nat) : Int)) = ints (markR (j + 1) q) ++ xs.drop (j + 1) := markR_set m q j xs hl hj
/-- A slice of n elements of four cells, each one greater than the one before. -/
def HeldC (w : World) (v : Value) (n q : Nat) : Prop := ∃ a c, v = .slice a n c ∧ n ≤ maxLen ∧ (n = 0 ∨ ∃ g o, a = some ⟨g, o, none⟩ ∧ g < w.heap.size ∧ ∀ j, j < n * 4 → w.cell? ⟨g, o + j, none⟩ = some (.int .i64 ((q + j : Nat) : Int)))
theorem heldC_below {w w' : World} {v : Value} {n q : Nat} (h : HeldC w v n q) (hb : Below w.heap.size w w') : HeldC w' v n q := by
  obtain ⟨a, c, hv, hm, hp⟩ := h
  refine ⟨a, c, hv, hm, ?_⟩
  rcases hp with h0 | ⟨g, o, ha, hg, hc⟩
  · exact .inl h0
  · exact .inr ⟨g, o, ha, Nat.lt_of_lt_of_le hg hb.size, fun j hj => below_cell hb hg (hc j hj)⟩
theorem heldC_own {w : World} {base e n q : Nat} {v : Value} (h : w.ownsRow base e 4 v n (ints (markR (n * 4) q))) : HeldC w v n q := by
  rcases h.2 with ⟨rfl, h0⟩ | ⟨g, cap, cur, rfl, hbg, hg, hc, hm, _⟩
  · exact ⟨none, 0, by rw [h0], by omega, .inl h0⟩
  · refine ⟨_, _, rfl, by omega, .inr ⟨g, 0, rfl, (Array.getElem?_eq_some_iff.1 hg).1, fun j hj => ?_⟩⟩
    rw [Nat.zero_add, h.cellAt j hj, ints_at _ j (by rw [markR_len]; exact hj), markR_at]
end Go.Proofs.Ytjnnoabaepmcnaa
/-
  slices.Reverse at switches.
-/
namespace Go.Proofs.Ytjnnoabaepmcnaa
open Go.RowKit
set_option maxRecDepth 100000

theorem grown_drewR {w w' : World} {row : Option Nat} (h : w.grownBy w' row) : w.grownBy w'.drew row := ⟨h.os, h.tape, h.output, h.size, h.block⟩
/-- Turned round from both ends, k places in. -/
def revF (l : List Sw) (k : Nat) : List Sw := (List.range l.length).map fun t => if t < k ∨ l.length ≤ t + k then l.getD (l.length - 1 - t) zeroSw else l.getD t zeroSw
theorem revF_len (l : List Sw) (k : Nat) : (revF l k).length = l.length := by simp [revF]
theorem revF_at (l : List Sw) (k t : Nat) (h : t < (revF l k).length) : (revF l k)[t] = if t < k ∨ l.length ≤ t + k then l.getD (l.length - 1 - t) zeroSw else l.getD t zeroSw := by simp [revF]
theorem revF_zero (l : List Sw) : revF l 0 = l := by
  refine List.ext_getElem (revF_len l 0) fun t h1 h2 => ?_
  rw [revF_at, if_neg (by omega), List.getD_eq_getElem?_getD, List.getElem?_eq_getElem h2]; rfl
theorem revF_end {l : List Sw} {k : Nat} (h : l.length ≤ 2 * k + 1) : revF l k = l.reverse := by
  refine List.ext_getElem (by rw [revF_len]; simp) fun t h1 h2 => ?_
  have ht : t < l.length := by simpa using h2
  rw [revF_at, List.getElem_reverse]
  by_cases e : t < k ∨ l.length ≤ t + k
  · rw [if_pos e, List.getD_eq_getElem?_getD, List.getElem?_eq_getElem (by omega)]; rfl
  · rw [if_neg e, List.getD_eq_getElem?_getD, List.getElem?_eq_getElem (by omega), Option.getD_some]
    congr 1; omega
theorem revF_step {l : List Sw} {k q : Nat} (h : k + q + 1 = l.length) (hkq : k < q) : ((revF l k).set k (l.getD q zeroSw)).set q (l.getD k zeroSw) = revF l (k + 1) := by
  refine List.ext_getElem (by simp [revF_len]) fun t h1 h2 => ?_
  have ht : t < l.length := by rw [revF_len] at h2; exact h2
  rw [List.getElem_set, List.getElem_set, revF_at, revF_at]
  by_cases e1 : q = t
  · subst e1
    rw [if_pos rfl, if_pos (by omega), show l.length - 1 - q = k by omega]
  · rw [if_neg e1]
    by_cases e2 : k = t
    · subst e2
      rw [if_pos rfl, if_pos (by omega), show l.length - 1 - k = q by omega]
    · rw [if_neg e2]
      by_cases e : t < k ∨ l.length ≤ t + k
      · rw [if_pos e, if_pos (by omega)]
      · rw [if_neg e, if_neg (by omega)]
theorem cellsS_set : ∀ (l : List Sw) (k : Nat) (s : Sw), k < l.length → cellsS (l.set k s) = set4 (cellsS l) (k * 4) s
  | [], k, s, h => by simp at h
  | x :: l, 0, s, _ => by simp [cellsS, set4]
  | x :: l, k + 1, s, h => by
    have ih := cellsS_set l k s (by simpa using h)
    have e1 : ∀ l : List Sw, cellsS (x :: l) = .int .i64 x.y1 :: .int .i64 x.y2 :: .int .i64 x.x1 :: .int .i64 x.x2 :: cellsS l := fun l => by simp [cellsS]
    rw [List.set_cons_succ, e1, ih, e1]
    unfold set4
    rw [show (k + 1) * 4 = k * 4 + 1 + 1 + 1 + 1 by omega, show k * 4 + 1 + 1 + 1 + 1 + 1 = (k * 4 + 1) + 1 + 1 + 1 + 1 by omega, show k * 4 + 1 + 1 + 1 + 1 + 2 = (k * 4 + 2) + 1 + 1 + 1 + 1 by omega, show k * 4 + 1 + 1 + 1 + 1 + 3 = (k * 4 + 3) + 1 + 1 + 1 + 1 by omega]
    simp only [List.set_cons_succ]
theorem revF_q (l : List Sw) {k q : Nat} (h : k + q + 1 = l.length) (hkq : k < q) : (revF l k).getD k zeroSw = l.getD k zeroSw ∧ (revF l k).getD q zeroSw = l.getD q zeroSw := by
  have h1 : k < (revF l k).length := by rw [revF_len]; omega
  have h2 : q < (revF l k).length := by rw [revF_len]; omega
  rw [List.getD_eq_getElem?_getD, List.getD_eq_getElem?_getD (l := revF l k), List.getElem?_eq_getElem h1, List.getElem?_eq_getElem h2, Option.getD_some, Option.getD_some, revF_at, revF_at, if_neg (by omega), if_neg (by omega)]
  exact ⟨rfl, rfl⟩
end Go.Proofs.Ytjnnoabaepmcnaa
/-
  ColSums of both.
-/
namespace Go.Proofs.Ytjnnoabaepmcnaa
open Go.RowKit

theorem implColSums_no (v : Value) (m : List (List Int)) (w : World) (hin : InMat w v m) (h : okB m = false) :
    Calls Try.prog 16 #[v] w (IntsRes [] w) := by
  have HI := hide hin; have H := hide h
  clear hin h
  go_enter Try.func16, Try.ntmps16
  go_wp2_with fail
  refine (implTransposeOf_no v m _ HI.out H.out).mono ?_
  rintro e w1 ⟨u, rfl, ho, hb⟩
  have HM := hide (inMat_own ho); have HB := hide hb
  clear ho hb
  go_wp2_with fail
  refine (implRowSums_no u [] _ HM.out (by decide)).mono ?_
  rintro e w2 ⟨u2, rfl, ho, hb⟩
  have HO := hide (own_base ho HB.out.size); have HB2 := hide (HB.out.trans (hb.mono HB.out.size))
  clear ho hb
  go_wp2
  go_ret
  exact ⟨_, rfl, HO.out, HB2.out⟩
theorem implColSums_yes (v : Value) (R C : Nat) (f : Nat → Nat → Int) (w : World) (hin : InMat w v (mkM R C f)) (hI : Img R C f) :
    Calls Try.prog 16 #[v] w (IntsRes (rowsL C R (trM f)) w) := by
  have HI := hide hin; have H := hide hI
  clear hin hI
  go_enter Try.func16, Try.ntmps16
  go_wp2_with fail
  refine (implTransposeOf_yes v R C f _ HI.out H.out).mono ?_
  rintro e w1 ⟨u, rfl, ho, hb⟩
  have HM := hide (inMat_own ho); have HB := hide hb
  clear ho hb
  go_wp2_with fail
  refine (implRowSums_yes u C R (trM f) _ HM.out (img_tr H.out)).mono ?_
  rintro e w2 ⟨u2, rfl, ho, hb⟩
  have HO := hide (own_base ho HB.out.size); have HB2 := hide (HB.out.trans (hb.mono HB.out.size))
  clear ho hb
  go_wp2
  go_ret
  exact ⟨_, rfl, HO.out, HB2.out⟩

end Go.Proofs.Ytjnnoabaepmcnaa
/-
  Lists of integers held against one another: slices.Equal.
-/
namespace Go.Proofs.Ytjnnoabaepmcnaa
open Go.RowKit

theorem sameRow_no {r s : List Int} (h : r.length ≠ s.length) : (r == s) = false := by
  rw [beq_eq_false_iff_ne]; intro e; exact h (by rw [e])
theorem sameRow_no2 {r s : List Int} (k : Nat) (hr : k < r.length) (hs : k < s.length) (h : r[k] ≠ s[k]) : (r == s) = false := by
  rw [beq_eq_false_iff_ne]; intro e; subst e; exact h rfl
theorem sameRow_yes {r s : List Int} (h : r.length = s.length) (h2 : ∀ k, (hr : k < r.length) → (hs : k < s.length) → r[k] = s[k]) : (r == s) = true := by
  rw [beq_iff_eq]; exact List.ext_getElem h h2
theorem sameMat_no {r s : List (List Int)} (h : r.length ≠ s.length) : (r == s) = false := by
  rw [beq_eq_false_iff_ne]; intro e; exact h (by rw [e])
theorem sameMat_no2 {r s : List (List Int)} (k : Nat) (hr : k < r.length) (hs : k < s.length) (h : (r[k] == s[k]) = false) : (r == s) = false := by
  rw [beq_eq_false_iff_ne] at h ⊢; intro e; subst e; exact h rfl
theorem sameMat_yes {r s : List (List Int)} (h : r.length = s.length) (h2 : ∀ k, (hr : k < r.length) → (hs : k < s.length) → (r[k] == s[k]) = true) : (r == s) = true := by
  rw [beq_iff_eq]; exact List.ext_getElem h fun k h1 h2' => by simpa using h2 k h1 h2'

end Go.Proofs.Ytjnnoabaepmcnaa
/-
  SameImage, of the model and of the program, and the exact law, walked.
-/
namespace Go.Proofs.Ytjnnoabaepmcnaa
open Go.RowKit

end Go.Proofs.Ytjnnoabaepmcnaa
/-
  PutCell and DistanceOf of the program.
-/
namespace Go.Proofs.Ytjnnoabaepmcnaa
open Go.RowKit

/-- The whole variable is read, behind a guard that says yes. -/
theorem wpList_loadVecG {P : Program} {ops : Array Oper} {rest : List Oper} {o : Oper} {a : Act} {Q : Exit → Act → World → Prop} {W : World} {g n m : Nat} {T T' e : TypeId} {F : Nat → Int} (hb : Blk W g T n F) (d : Tmp) (_hd : o.dst = some d)
    (hw : Region.wanted o (yielded ops a.tmps) = true) (x : Operand) (ho : o.op = .load T' x) (hx : a.eval x = .pointer (some ⟨g, 0, none⟩)) (hu : P.underlying T' = some (.array m e)) (hi : (P.info? T').map (·.size) = some n)
    (h : wpList P ops Q rest (a.put o.dst (.agg (vec n F))) W) : wpList P ops Q (o :: rest) a W :=
  BigFrame.wpList_want hw fun K hK => wp_load_row T' x ho g hx T (vec n F) (0, 0) _ hb hu rfl (by rw [hi, vec_size]) (hK _ _ h)

/-- The image with another cell. -/
def putM (f : Nat → Nat → Int) (a b : Nat) (c : Int) (y x : Nat) : Int := if y = a ∧ x = b then c else f y x
theorem img_put {R C : Nat} {f : Nat → Nat → Int} (h : Img R C f) (a b : Nat) {c : Int} (hc : c = 0 ∨ c = 1) : Img R C (putM f a b c) := ⟨h.r1, h.r2, h.c1, h.c2, fun y x hy hx => by
  unfold putM; split
  · exact hc
  · exact h.cell y x hy hx⟩
theorem imgF_put (R C : Nat) (f : Nat → Nat → Int) (a b : Nat) (c : Int) (ha : a < R) (hb : b < C) (hC : C ≤ 5) : ∀ i, i < 25 → (if i = 5 * a + b then c else imgF R C f i) = imgF R C (putM f a b c) i := fun i hi => by
  simp only [imgF, putM]
  by_cases e : i = 5 * a + b
  · subst e
    rw [if_pos rfl, if_pos (by omega), if_pos (by omega)]
  · rw [if_neg e]
    by_cases h : i / 5 < R ∧ i % 5 < C
    · rw [if_pos h, if_pos h, if_neg (by omega)]
    · rw [if_neg h, if_neg h]

end Go.Proofs.Ytjnnoabaepmcnaa
/-
  DistanceOf of the program.
-/
namespace Go.Proofs.Ytjnnoabaepmcnaa
open Go.RowKit

theorem imageOf_any (v : Value) (m : List (List Int)) (w : World) (hin : InMat w v m) :
    Calls Try.prog 30 #[v] w fun e w' => (∃ F, e = .returned (.tuple #[.agg (vec 25 F), .bool (okB m)])) ∧ Below w.heap.size w w' := by
  cases h : okB m with
  | false =>
    refine (imageOf_no v m w hin h).mono ?_
    rintro e w' ⟨rfl, hb⟩
    exact ⟨⟨_, rfl⟩, hb⟩
  | true =>
    obtain ⟨R, C, f, rfl, hI⟩ := ok_img h
    refine (imageOf_yes v R C f w hin hI).mono ?_
    rintro e w' ⟨rfl, hb⟩
    exact ⟨⟨_, rfl⟩, hb⟩
theorem imgF_none {R C : Nat} {f : Nat → Nat → Int} (h : Img R C f) (i : Nat) : imgF R C f i = -1 ↔ ¬ (i / 5 < R ∧ i % 5 < C) := by
  unfold imgF
  by_cases hi : i / 5 < R ∧ i % 5 < C
  · rw [if_pos hi]
    constructor
    · intro e; rcases h.cell _ _ hi.1 hi.2 with e' | e' <;> rw [e'] at e <;> cases e
    · intro e; exact absurd hi e
  · rw [if_neg hi]; exact ⟨fun _ => hi, fun _ => rfl⟩
theorem same_sizes {R C R' C' : Nat} {f g : Nat → Nat → Int} (h : Img R C f) (h' : Img R' C' g) : decide (R = R' ∧ C = C') = true ↔ ∀ i, i < 25 → (imgF R C f i = -1 ↔ imgF R' C' g i = -1) := by
  have a1 := h.r1; have a2 := h.r2; have a3 := h.c1; have a4 := h.c2
  have b1 := h'.r1; have b2 := h'.r2; have b3 := h'.c1; have b4 := h'.c2
  rw [decide_eq_true_eq]
  constructor
  · rintro ⟨rfl, rfl⟩ i hi
    rw [imgF_none h, imgF_none h']
  · intro hall
    have hq : ∀ y x, y < 5 → x < 5 → ((y < R ∧ x < C) ↔ (y < R' ∧ x < C')) := fun y x hy hx => by
      have := hall (5 * y + x) (by omega)
      rw [imgF_none h, imgF_none h', show (5 * y + x) / 5 = y by omega, show (5 * y + x) % 5 = x by omega] at this
      exact ⟨fun h1 => Decidable.byContradiction fun n => (this.2 n) h1, fun h1 => Decidable.byContradiction fun n => (this.1 n) h1⟩
    constructor
    · by_cases l : R < R'
      · have := (hq R 0 (by omega) (by omega)).2 ⟨l, by omega⟩; omega
      · by_cases l2 : R' < R
        · have := (hq R' 0 (by omega) (by omega)).1 ⟨l2, by omega⟩; omega
        · omega
    · by_cases l : C < C'
      · have := (hq 0 C (by omega) (by omega)).2 ⟨by omega, l⟩; omega
      · by_cases l2 : C' < C
        · have := (hq 0 C' (by omega) (by omega)).1 ⟨by omega, l2⟩; omega
        · omega
end Go.Proofs.Ytjnnoabaepmcnaa
/-
  DistanceOf of the model.
-/
namespace Go.Proofs.Ytjnnoabaepmcnaa
open Go.RowKit

end Go.Proofs.Ytjnnoabaepmcnaa
/-
  SameSums of both.
-/
namespace Go.Proofs.Ytjnnoabaepmcnaa
open Go.RowKit Go.Maps

/-- The rows' and the columns' directions. -/
def rc : List (Int × Int) := [(1, 0), (0, 1)]
theorem lines_row (R C : Nat) (f : Nat → Nat → Int) (n : Int) : linesC C f (R * C) ⟨1, 0, n⟩ rc = if 0 ≤ n ∧ n < R then ((rs C f n.toNat : Nat) : Int) else 0 := by
  have h : lineC C f (1, 0) (R * C) ⟨1, 0, n⟩ = (cnt (onL C f (1, 0) n) (C * R) : Nat) := by rw [Nat.mul_comm R C]; exact if_pos ⟨rfl, rfl⟩
  have h2 : lineC C f (0, 1) (R * C) ⟨1, 0, n⟩ = 0 := if_neg (fun h => by cases h.1)
  rw [rc, linesC, linesC, linesC, h, h2, cnt_rows]
  split <;> simp
theorem lines_col (R C : Nat) (f : Nat → Nat → Int) (n : Int) : linesC C f (R * C) ⟨0, 1, n⟩ rc = if 0 ≤ n ∧ n < C then ((cs R f (C - 1 - n.toNat) : Nat) : Int) else 0 := by
  have h : lineC C f (0, 1) (R * C) ⟨0, 1, n⟩ = (cnt (onL C f (0, 1) n) (C * R) : Nat) := by rw [Nat.mul_comm R C]; exact if_pos ⟨rfl, rfl⟩
  have h2 : lineC C f (1, 0) (R * C) ⟨0, 1, n⟩ = 0 := if_neg (fun h => by cases h.1)
  rw [rc, linesC, linesC, linesC, h, h2, cnt_cols]
  split <;> simp
theorem lines_none (C : Nat) (f : Nat → Nat → Int) (N : Nat) (k : Key) (h1 : ¬ (k.x = 1 ∧ k.y = 0)) (h2 : ¬ (k.x = 0 ∧ k.y = 1)) : linesC C f N k rc = 0 := by
  simp only [rc, linesC, lineC]
  rw [if_neg h1, if_neg h2]; rfl
theorem rowsL_eq {R C : Nat} {f g : Nat → Nat → Int} : (rowsL R C f == rowsL R C g) = true ↔ ∀ y, y < R → rs C f y = rs C g y := by
  rw [beq_iff_eq]
  constructor
  · intro h y hy
    have h1 := congrArg (fun l => l[y]?) h
    simp only [rowsL, rowF, List.getElem?_map, List.getElem?_range hy, Option.map_some, Option.some.injEq] at h1
    omega
  · intro h
    exact rowF_congr fun y hy => by rw [h y hy]
def sameL (R C : Nat) (f g : Nat → Nat → Int) : Bool := (rowsL R C f == rowsL R C g) && (rowsL C R (trM f) == rowsL C R (trM g))
theorem same_lines {R C : Nat} {f g : Nat → Nat → Int} (hR : R ≤ 5) (hC : C ≤ 5) : (∀ k : Key, k.wf → thereK (fun k => linesC C f (R * C) k rc - linesC C g (R * C) k rc) k = false) ↔ sameL R C f g = true := by
  have hcs : ∀ (f : Nat → Nat → Int) x, rs R (trM f) x = cs R f x := fun _ _ => rfl
  unfold sameL
  rw [Bool.and_eq_true, rowsL_eq, rowsL_eq]
  constructor
  · intro h
    have h0 : ∀ k : Key, k.wf → linesC C f (R * C) k rc = linesC C g (R * C) k rc := fun k hk => by
      have := h k hk
      simp only [thereK, decide_eq_false_iff_not, ne_eq, Decidable.not_not] at this
      omega
    refine ⟨fun y hy => ?_, fun x hx => ?_⟩
    · have := h0 ⟨1, 0, y⟩ (key_wf (by decide) (by decide) (WalkArith.wf_i64 (by omega)))
      rw [lines_row, lines_row, if_pos (by omega), if_pos (by omega)] at this
      have e : ((y : Int)).toNat = y := by omega
      rw [e] at this; omega
    · rw [hcs, hcs]
      have := h0 ⟨0, 1, (C - 1 - x : Nat)⟩ (key_wf (by decide) (by decide) (WalkArith.wf_i64 (by omega)))
      rw [lines_col, lines_col, if_pos (by omega), if_pos (by omega)] at this
      have e : C - 1 - (((C - 1 - x : Nat) : Int)).toNat = x := by omega
      rw [e] at this; omega
  · rintro ⟨h1, h2⟩ k -
    simp only [thereK, decide_eq_false_iff_not, ne_eq, Decidable.not_not]
    obtain ⟨kx, ky, n⟩ := k
    by_cases e1 : kx = 1 ∧ ky = 0
    · obtain ⟨rfl, rfl⟩ := e1
      rw [lines_row, lines_row]
      split
      · rename_i hn; rw [h1 n.toNat (by omega)]; omega
      · rfl
    · by_cases e2 : kx = 0 ∧ ky = 1
      · obtain ⟨rfl, rfl⟩ := e2
        rw [lines_col, lines_col]
        split
        · rename_i hn
          have := h2 (C - 1 - n.toNat) (by omega)
          rw [hcs, hcs] at this
          rw [this]; omega
        · rfl
      · rw [lines_none C f (R * C) _ e1 e2, lines_none C g (R * C) _ e1 e2]; rfl

theorem iok_quiet (v : Value) (m : List (List Int)) (w : World) (n : Nat) (b : Bool) (hin : InMat w v m) (hb : okB m = b) :
    Calls Try.prog 35 #[v] (w.drewN n) fun e w'' => e = .returned (.bool b) ∧ ∃ k, w'' = w.drewN k := by
  refine Calls.quiet_of_same ((implImageOk_any v m (w.drewN n) hin).mono ?_)
  rintro e w' ⟨rfl, rfl⟩
  exact ⟨by rw [hb], rfl⟩
end Go.Proofs.Ytjnnoabaepmcnaa
/-
  Whether two lists of lists are images with the same sums.
-/
namespace Go.Proofs.Ytjnnoabaepmcnaa
open Go.RowKit

def sameB (m l : List (List Int)) : Bool := okB m && okB l && (decide (m.length = l.length) && decide (widthM m = widthM l) && sameL m.length (widthM m) (cellM m) (cellM l))
theorem rs_congr {C : Nat} {f g : Nat → Nat → Int} {y : Nat} (h : ∀ x, x < C → f y x = g y x) : rs C f y = rs C g y := cnt_congr fun x hx => by rw [h x hx]
theorem rowsL_congr {R C : Nat} {f g : Nat → Nat → Int} (h : ∀ y x, y < R → x < C → f y x = g y x) : rowsL R C f = rowsL R C g := rowF_congr fun y hy => by rw [rs_congr fun x hx => h y x hy hx]
theorem sameL_congr {R C : Nat} {f g f' g' : Nat → Nat → Int} (h : ∀ y x, y < R → x < C → f y x = f' y x) (h2 : ∀ y x, y < R → x < C → g y x = g' y x) : sameL R C f g = sameL R C f' g' := by
  unfold sameL
  rw [rowsL_congr h, rowsL_congr h2, rowsL_congr (f := trM f) (g := trM f') fun y x hy hx => h x y hx hy, rowsL_congr (f := trM g) (g := trM g') fun y x hy hx => h2 x y hx hy]
theorem width_mk {R C : Nat} {f : Nat → Nat → Int} (h : Img R C f) : widthM (mkM R C f) = C := by
  have := h.r1
  unfold widthM mkM
  obtain ⟨n, rfl⟩ : ∃ n, R = n + 1 := ⟨R - 1, by omega⟩
  simp [List.range_succ_eq_map, rowF]
theorem sameB_mk {R C R' C' : Nat} {f g : Nat → Nat → Int} (h : Img R C f) (h' : Img R' C' g) : sameB (mkM R C f) (mkM R' C' g) = if R = R' ∧ C = C' then sameL R C f g else false := by
  unfold sameB
  rw [img_ok h, img_ok h', width_mk h, width_mk h', mkM_len, mkM_len]
  by_cases e1 : R = R'
  · by_cases e2 : C = C'
    · subst e1; subst e2
      rw [if_pos ⟨rfl, rfl⟩, sameL_congr (fun y x hy hx => cell_mk R C f hy hx) (fun y x hy hx => cell_mk R C g hy hx)]
      simp
    · rw [if_neg fun e => e2 e.2]; simp [e2]
  · rw [if_neg fun e => e1 e.1]; simp [e1]
theorem rowF_inj {n : Nat} {f g : Nat → Int} (h : rowF n f = rowF n g) : ∀ i, i < n → f i = g i := fun i hi => by
  have h1 : (rowF n f)[i]? = (rowF n g)[i]? := by rw [h]
  simpa [rowF, hi] using h1
theorem sameB_yes {m l : List (List Int)} (h : sameB m l = true) : ∃ R C f g, m = mkM R C f ∧ l = mkM R C g ∧ Img R C f ∧ Img R C g ∧ SameF R C f g := by
  have h0 := h
  unfold sameB at h0
  simp only [Bool.and_eq_true] at h0
  obtain ⟨R, C, f, rfl, hI⟩ := ok_img h0.1.1
  obtain ⟨R', C', g, rfl, hJ⟩ := ok_img h0.1.2
  rw [sameB_mk hI hJ] at h
  by_cases e : R = R' ∧ C = C'
  · obtain ⟨rfl, rfl⟩ := e
    rw [if_pos ⟨rfl, rfl⟩] at h
    unfold sameL at h
    simp only [Bool.and_eq_true, beq_iff_eq] at h
    refine ⟨R, C, f, g, rfl, rfl, hI, hJ, fun y hy => ?_, fun x hx => ?_⟩
    · have := rowF_inj h.1 y hy; omega
    · have := rowF_inj h.2 x hx
      show rs R (trM f) x = rs R (trM g) x
      omega
  · rw [if_neg e] at h; cases h
end Go.Proofs.Ytjnnoabaepmcnaa
/-
  PathTo of the program.
-/
namespace Go.Proofs.Ytjnnoabaepmcnaa
open Go.RowKit
set_option maxRecDepth 100000

def pathB (m l : List (List Int)) : Bool := sameB m l && (decide (m.length ≤ 4) && decide (widthM m ≤ 4))
/-- The map of a search that has found t. -/
def mapF (R C : Nat) (m t : List (List Int)) : FactP := fun u w2 => ∃ b L V k K i, u = .map (some b) ∧ Bfs m L V k K ∧ i < L.length ∧ L.getD i [] = t ∧ ImgMap w2 b (ksOf R C L V)
theorem stable_mapF (R C : Nat) (m t : List (List Int)) : StableP (mapF R C m t) := fun _ _ _ hb h => by
  obtain ⟨b, L, V, k, K, i, h1, h2, h3, h4, h5⟩ := h
  exact ⟨b, L, V, k, K, i, h1, h2, h3, h4, imgMap_below h5 hb⟩
/-- What NextTo answers. -/
def NextRes (m l : List (List Int)) (w : World) (e : Ending) (w' : World) : Prop :=
  ∃ P : List Sw, e = .returned (.tuple #[swV (P.headD zeroSw), .bool (!P.isEmpty)]) ∧ Below w.heap.size w w' ∧ (pathB m l = true → Best m l P) ∧ (pathB m l = false → P = [])
end Go.Proofs.Ytjnnoabaepmcnaa
/-
  l06Find and l06Small of the model.
-/
namespace Go.Proofs.Ytjnnoabaepmcnaa
open Go.RowKit
set_option maxRecDepth 100000

/-- A list of lists of lists that reads. -/
def InImgs (w : World) (v : Value) (L : List (List (List Int))) : Prop :=
  ∃ a c, v = .slice a L.length c ∧ L.length ≤ maxLen ∧ (L.length = 0 ∨ ∃ g o, a = some ⟨g, o, none⟩ ∧ g < w.heap.size ∧ ∀ i, (h : i < L.length) → ∃ u, w.cell? ⟨g, o + i, none⟩ = some u ∧ InMat w u L[i])
theorem inImgs_below {w w' : World} {v : Value} {L : List (List (List Int))} (h : InImgs w v L) (hb : Below w.heap.size w w') : InImgs w' v L := by
  obtain ⟨a, c, hv, hm, hp⟩ := h
  refine ⟨a, c, hv, hm, ?_⟩
  rcases hp with h0 | ⟨g, o, ha, hg, hc⟩
  · exact .inl h0
  · refine .inr ⟨g, o, ha, Nat.lt_of_lt_of_le hg hb.size, fun i hi => ?_⟩
    obtain ⟨u, h1, h2⟩ := hc i hi
    exact ⟨u, below_cell hb hg h1, inMat_below h2 hb⟩
/-- What l06Find answers. -/
def FindRes (L : List (List (List Int))) (m : List (List Int)) (w : World) (e : Ending) (w' : World) : Prop :=
  ∃ r : Int, e = .returned (.int .i64 r) ∧ Below w.heap.size w w' ∧ ((r = -1 ∧ m ∉ L) ∨ ∃ k : Nat, r = k ∧ ∃ h : k < L.length, L[k] = m)
end Go.Proofs.Ytjnnoabaepmcnaa
/-
  PathTo and NextTo of the model, out of what its search leaves.
-/
namespace Go.Proofs.Ytjnnoabaepmcnaa
open Go.RowKit
set_option maxRecDepth 100000

end Go.Proofs.Ytjnnoabaepmcnaa
/-
  PutCell of the model.
-/
namespace Go.Proofs.Ytjnnoabaepmcnaa
open Go.RowKit

theorem cellOk_in (c : Int) : decide (0 ≤ c ∧ c ≤ 1) = cellOk c := by
  unfold cellOk
  by_cases h0 : c = 0
  · subst h0; rfl
  · by_cases h1 : c = 1
    · subst h1; rfl
    · rw [decide_eq_false (by omega)]; simp [h0, h1]
theorem mkM_put (R C : Nat) (f : Nat → Nat → Int) (y x : Nat) (c : Int) : (mkM R C fun a b => if a = y ∧ b = x then c else f a b) = mkM R C (putM f y x c) := rfl
end Go.Proofs.Ytjnnoabaepmcnaa
/-
  l06Apply of the model: an image after one of its switches.
-/
namespace Go.Proofs.Ytjnnoabaepmcnaa
open Go.RowKit

/-- The cells after the first n of the four. -/
def stepM (f : Nat → Nat → Int) (a b c d : Nat) : Nat → Nat → Nat → Int
  | 0 => f
  | n + 1 => fun y x => if y = pickN a b (n / 2) ∧ x = pickN c d (n % 2) then 1 - f y x else stepM f a b c d n y x
theorem stepM_all (f : Nat → Nat → Int) (a b c d : Nat) : stepM f a b c d 4 = flipN f a b c d := by
  have e : stepM f a b c d 4 = fun y x => if y = b ∧ x = d then 1 - f y x else if y = b ∧ x = c then 1 - f y x else if y = a ∧ x = d then 1 - f y x else if y = a ∧ x = c then 1 - f y x else f y x := rfl
  rw [e]
  funext y x
  unfold flipN
  by_cases h1 : y = a <;> by_cases h2 : y = b <;> by_cases h3 : x = c <;> by_cases h4 : x = d <;> simp [h1, h2, h3, h4]
theorem stepM_cell {R C : Nat} {f : Nat → Nat → Int} (h : Img R C f) (a b c d : Nat) : ∀ n, Img R C (stepM f a b c d n)
  | 0 => h
  | n + 1 => ⟨h.r1, h.r2, h.c1, h.c2, fun y x hy hx => by
    have := h.cell y x hy hx
    have := (stepM_cell h a b c d n).cell y x hy hx
    unfold stepM
    split <;> omega⟩

/-- Two integers in a block. -/
def PairAt (w : World) (g a b : Nat) : Prop := w.heap[g]? = some (.cells #[.int .i64 (a : Int), .int .i64 (b : Int)] 3 (0, 0))
theorem pair_lt {w : World} {g a b : Nat} (h : PairAt w g a b) : g < w.heap.size := (Array.getElem?_eq_some_iff.1 h).1
theorem pair_below {w w' : World} {g a b : Nat} (h : PairAt w g a b) (hb : Below w.heap.size w w') : PairAt w' g a b := by
  unfold PairAt; rw [hb.block g (pair_lt h)]; exact h
theorem pair_set {w : World} {g a b : Nat} (h : PairAt w g a b) (p : Addr) (v : Value) (hne : g ≠ p.block) : PairAt (w.setCell p v) g a b := by
  unfold PairAt; rw [heap_setCell_other w p g v hne]; exact h
theorem pair_cell {w : World} {g a b : Nat} (h : PairAt w g a b) (i : Nat) (hi : i < 2) : w.cell? ⟨g, i, none⟩ = some (.int .i64 ((pickN a b i : Nat) : Int)) := by
  rw [cell_of_row w g i _ _ _ h]
  have : i = 0 ∨ i = 1 := by omega
  rcases this with rfl | rfl <;> rfl
end Go.Proofs.Ytjnnoabaepmcnaa
/-
  SwitchOk of the model.
-/
namespace Go.Proofs.Ytjnnoabaepmcnaa
open Go.RowKit

theorem swF_no {R C : Nat} {f : Nat → Nat → Int} {s : Sw} (h : ¬ ((0 ≤ s.y1 ∧ s.y1 < R ∧ 0 ≤ s.x1 ∧ s.x1 < C) ∧ (0 ≤ s.y2 ∧ s.y2 < R ∧ 0 ≤ s.x2 ∧ s.x2 < C) ∧ s.y1 < s.y2 ∧ s.x1 < s.x2)) : swF R C f s = false := by
  rw [Bool.eq_false_iff]
  intro e
  obtain ⟨a, b, c, d, rfl, hf⟩ := swF_iff.1 e
  obtain ⟨h1, h2, h3, h4, -⟩ := four_iff.1 hf
  exact h (by simp only; omega)
end Go.Proofs.Ytjnnoabaepmcnaa
/-
  SwitchesOf of the model.
-/
namespace Go.Proofs.Ytjnnoabaepmcnaa
open Go.RowKit

theorem swB_dec {R C : Nat} {f : Nat → Nat → Int} (hI : Img R C f) {i : Nat} (h : swB (mkM R C f) (decS i) = true) : i / 125 < i / 25 % 5 ∧ i / 5 % 5 < i % 5 ∧ i / 25 % 5 < R ∧ i % 5 < C := by
  rw [swB_mk hI] at h
  obtain ⟨a, b, c, d, e1, h1⟩ := swF_iff.1 h
  obtain ⟨h2, h3, h4, h5, -⟩ := four_iff.1 h1
  unfold decS at e1
  simp only [Sw.mk.injEq] at e1
  omega
theorem upS_to {R C : Nat} {f : Nat → Nat → Int} (hI : Img R C f) {k l : Nat} (hkl : k ≤ l) (h : ∀ i, k ≤ i → i < l → i / 125 < i / 25 % 5 → i / 5 % 5 < i % 5 → i / 25 % 5 < R → i % 5 < C → False) : upS (mkM R C f) l = upS (mkM R C f) k :=
  upS_skip hkl fun i h1 h2 => by
    rw [Bool.eq_false_iff]
    intro e
    obtain ⟨g1, g2, g3, g4⟩ := swB_dec hI e
    exact h i h1 h2 g1 g2 g3 g4
end Go.Proofs.Ytjnnoabaepmcnaa
/-
  eqSwitch, eqSwitchS of the exact laws, at the same switches.
-/
namespace Go.Proofs.Ytjnnoabaepmcnaa
open Go.RowKit

theorem exec_not {P : Program} {ρ : Operand → Value} {o : Oper} {w : World} {x : Operand} {T : TypeId} {b : Bool} (ho : o.op = .unOp .not T x) (hx : ρ x = .bool b) : (execOp ρ o).run P w = .ok (.value (.bool !b)) w := by
  unfold execOp
  simp only [ho, hx]
  rfl
end Go.Proofs.Ytjnnoabaepmcnaa
/-
  What the model's search keeps: images and ways, both lists of the call's own.
-/
namespace Go.Proofs.Ytjnnoabaepmcnaa
open Go.RowKit
set_option maxRecDepth 100000

theorem grownA_kept {w w' : World} {b1 b2 e1 e2 n1 n2 z1 z2 : Nat} {v u : Value} {xs ys : List Value} (h : w.ownsRow b1 e1 z1 v n1 xs) (hu : w.ownsRow b2 e2 z2 u n2 ys) (hg : w.grownBy w' u.ownBlock) (hne : e1 ≠ e2) : w'.ownsRow b1 e1 z1 v n1 xs := h.kept hg (ownA_types h hu hne)
theorem own_at {w : World} {base e n : Nat} {v : Value} {xs : List Value} (h : w.ownsRow base e 1 v n xs) {i : Nat} (hi : i < n) : ∃ g c, v = .slice (some ⟨g, 0, none⟩) n c ∧ base ≤ g ∧ g < w.heap.size ∧ ∀ j, j < n → w.cell? ⟨g, j, none⟩ = some (xs.getD j undef) := by
  obtain ⟨g, c, rfl, h1, h2, -, -, h3, -⟩ := ownA_some h (by omega)
  refine ⟨g, c, rfl, h1, h2, fun j hj => ?_⟩
  have hl : xs.length = n := by have := h.1; omega
  rw [h3 j (by omega), List.getD_eq_getElem?_getD, List.getElem?_eq_getElem (show j < xs.length by omega)]; rfl
theorem own_max {w : World} {base e n z : Nat} {v : Value} {xs : List Value} (h : w.ownsRow base e z v n xs) : n ≤ maxLen := by
  rcases h.2 with ⟨-, h0⟩ | ⟨g, cap, cur, rfl, hbg, hg, hc, hm, _⟩
  · omega
  · omega

theorem ownImgs_kept {w w' : World} {lo B e n z : Nat} {v u : Value} {L : List (List (List Int))} {xs : List Value} (h : OwnImgs w lo v L) (hu : w.ownsRow B e z u n xs) (hg : w.grownBy w' u.ownBlock) (h1 : 23 ≠ e) (h2 : 30 ≠ e) (h3 : 3 ≠ e) : OwnImgs w' lo v L := by
  obtain ⟨us, g1, g2⟩ := h
  refine ⟨us, grownA_kept g1 hu hg h1, fun i hi => ?_⟩
  obtain ⟨hi', h0, vs, f1, f2, f3, f4⟩ := g2 i hi
  exact ⟨hi', Nat.le_trans h0 hg.size, vs, grownA_kept f1 hu hg h2, f2, fun i hi => ⟨grownA_kept (f3 i hi).1 hu hg h3, (f3 i hi).2⟩, f4⟩
theorem ownImgs_in {w : World} {lo : Nat} {v : Value} {L : List (List (List Int))} (h : OwnImgs w lo v L) : InImgs w v L := by
  obtain ⟨us, h1, h2⟩ := h
  obtain ⟨a, c, rfl⟩ := own_slice h1
  refine ⟨a, c, rfl, own_max h1, ?_⟩
  by_cases h0 : L.length = 0
  · exact .inl h0
  · right
    obtain ⟨g, c', e, -, hg, hc⟩ := own_at h1 (i := 0) (by omega)
    injection e with e1
    exact ⟨g, 0, e1, hg, fun i hi => ⟨_, by rw [Nat.zero_add]; exact hc i hi, by obtain ⟨hi', -, h3⟩ := h2 i hi; exact inMat_own h3⟩⟩
theorem ownM2_slice {w : World} {lo : Nat} {v : Value} {m : List (List Int)} (h : OwnM2 w lo v m) : ∃ a n c, v = .slice a n c := by
  obtain ⟨hi, -, vs, h1, -⟩ := h
  obtain ⟨a, c, e⟩ := own_slice h1
  exact ⟨a, _, c, e⟩
theorem imgs_at {w : World} {lo a : Nat} {v : Value} {L : List (List (List Int))} (h : OwnImgs w lo v L) (ha : a < L.length) :
    ∃ g c xa xn xc, v = .slice (some ⟨g, 0, none⟩) L.length c ∧ g < w.heap.size ∧ w.cell? ⟨g, a, none⟩ = some (.slice xa xn xc) ∧ OwnM2 w lo (.slice xa xn xc) (L.getD a []) := by
  obtain ⟨us, h1, h2⟩ := h
  obtain ⟨g, c, rfl, -, hg, hc⟩ := own_at h1 ha
  obtain ⟨xa, xn, xc, e⟩ := ownM2_slice (h2 a ha)
  have h3 := h2 a ha
  rw [e] at h3
  exact ⟨g, c, xa, xn, xc, rfl, hg, by rw [hc a ha, e], by rwa [List.getD_eq_getElem?_getD, List.getElem?_eq_getElem ha]⟩
theorem bfs_wlen {m : List (List Int)} {L : List (List (List Int))} {W : List (List Sw)} {a K : Nat} (h : Bfs m L W a K) : ∀ i, i < L.length → (W.getD i []).length ≤ i := by
  intro i
  induction i using Nat.strongRecOn with
  | ind i ih =>
    intro hi
    rcases h.tree i hi with ⟨e, -⟩ | ⟨j, s, hj, e, -, -⟩
    · rw [e]; exact Nat.zero_le _
    · have := ih j hj (by omega)
      rw [e, List.length_append, List.length_singleton]; omega

/-- An image of the call's own. -/
def imgNew (B : Nat) (m : List (List Int)) : FactP := fun u w2 => OwnM2 w2 B u m
theorem stable_imgNew (B : Nat) (m : List (List Int)) : StableP (imgNew B m) := fun _ _ _ hb h => ownM2_below h hb
theorem cellsS_one (l : List Sw) : ∀ u ∈ cellsS l, u.oneCell' = true := by
  intro u hu
  unfold cellsS at hu
  obtain ⟨s, -, h⟩ := List.mem_flatMap.1 hu
  simp only [List.mem_cons, List.not_mem_nil, or_false] at h
  rcases h with rfl | rfl | rfl | rfl <;> rfl
end Go.Proofs.Ytjnnoabaepmcnaa
/-
  l06Visit of the model: a search in breadth over two lists.
-/
namespace Go.Proofs.Ytjnnoabaepmcnaa
open Go.RowKit

theorem below_push {B e n z : Nat} {w w1 w2 : World} {u : Value} {xs : List Value} (h : Below B w w1) (hu : w1.ownsRow B e z u n xs) (hg : w1.grownBy w2 u.ownBlock) (hB : B ≤ w.heap.size) : Below B w w2 := h.grown hg (Nat.le_trans hB h.size) fun k hk => (hu.lt k hk).1
end Go.Proofs.Ytjnnoabaepmcnaa
/-
  PathTo and NextTo of both answer the same.
-/
namespace Go.Proofs.Ytjnnoabaepmcnaa
open Go.RowKit

/-- What PathTo lists. -/
def PathOf (m l : List (List Int)) (P : List Sw) : Prop := (pathB m l = true → Best m l P) ∧ (pathB m l = false → P = [])
open Classical in
noncomputable def pathL (m l : List (List Int)) : List Sw := if h : ∃ P, PathOf m l P then h.choose else []
theorem pathB_node {m l : List (List Int)} (h : pathB m l = true) : ∃ R C f g, m = mkM R C f ∧ l = mkM R C g ∧ Img R C f ∧ Img R C g ∧ SameF R C f g ∧ R ≤ 4 ∧ C ≤ 4 := by
  unfold pathB at h
  rw [Bool.and_eq_true] at h
  obtain ⟨R, C, f, g, rfl, rfl, hI, hJ, hs⟩ := sameB_yes h.1
  have h2 := h.2
  rw [mkM_len, width_mk hI] at h2
  simp only [Bool.and_eq_true, decide_eq_true_eq] at h2
  exact ⟨R, C, f, g, rfl, rfl, hI, hJ, hs, h2.1, h2.2⟩
theorem path_uniq {m l : List (List Int)} {P Q : List Sw} (h1 : PathOf m l P) (h2 : PathOf m l Q) : P = Q := by
  cases h : pathB m l with
  | false => rw [h1.2 h, h2.2 h]
  | true =>
    obtain ⟨R, C, f, g, rfl, rfl, hI, -⟩ := pathB_node h
    exact best_one ⟨f, rfl, hI⟩ (h1.1 h) (h2.1 h)
theorem path_one {m l : List (List Int)} {P : List Sw} (h : PathOf m l P) : P = pathL m l := by
  have hex : ∃ P, PathOf m l P := ⟨P, h⟩
  unfold pathL
  rw [dif_pos hex]
  exact path_uniq h hex.choose_spec
theorem path_len {m l : List (List Int)} {P : List Sw} (h : PathOf m l P) : P.length ≤ 12 := by
  cases hb : pathB m l with
  | false => rw [h.2 hb]; exact Nat.zero_le _
  | true =>
    have hp := h.1 hb
    obtain ⟨R, C, f, g, rfl, rfl, hI, hJ, hs, -⟩ := pathB_node hb
    obtain ⟨q, hq, hl⟩ := joined _ f g (Nat.le_refl _) hI hJ hs
    have h1 := best_len ⟨f, rfl, hI⟩ hp hq
    have h2 : diff R C f g ≤ 25 := cnt_le _ _
    omega
theorem pathL_len (m l : List (List Int)) : (pathL m l).length ≤ 12 := by
  unfold pathL
  split
  · rename_i h; exact path_len h.choose_spec
  · exact Nat.zero_le _
def NextAns (m l : List (List Int)) (w : World) (e : Ending) (w' : World) : Prop := e = .returned (.tuple #[swV ((pathL m l).headD zeroSw), .bool (!(pathL m l).isEmpty)]) ∧ Below w.heap.size w w'
theorem nextAns {m l : List (List Int)} {w w' : World} {e : Ending} (h : NextRes m l w e w') : NextAns m l w e w' := by
  obtain ⟨P, rfl, h2, h3, h4⟩ := h
  obtain rfl := path_one ⟨h3, h4⟩
  exact ⟨rfl, h2⟩
end Go.Proofs.Ytjnnoabaepmcnaa
/-
  MakePair: two images that switches join.
-/
namespace Go.Proofs.Ytjnnoabaepmcnaa
open Go.RowKit
set_option maxRecDepth 100000

theorem small_num : ((List.range 625).filter fun i => decide (i / 125 ≤ 3 ∧ i / 25 % 5 ≤ 3 ∧ i / 5 % 5 ≤ 3 ∧ i % 5 ≤ 3)).length = 256 := by decide +kernel
theorem len_mono {α : Type} {p q : α → Bool} (h : ∀ x, p x = true → q x = true) : ∀ l : List α, (l.filter p).length ≤ (l.filter q).length
  | [] => Nat.le_refl _
  | x :: l => by
    have := len_mono h l
    cases hp : p x with
    | false =>
      cases hq : q x with
      | false => simpa [List.filter_cons, hp, hq] using this
      | true => simp only [List.filter_cons, hp, hq, if_true, List.length_cons, Bool.false_eq_true, if_false]; omega
    | true => simp only [List.filter_cons, hp, h x hp, if_true, List.length_cons]; omega
theorem sws_small {R C : Nat} {f : Nat → Nat → Int} (hI : Img R C f) (hR : R ≤ 4) (hC : C ≤ 4) : (swsM (mkM R C f)).length ≤ 256 := by
  unfold swsM upS
  rw [List.length_map, ← small_num]
  refine len_mono (fun i h => ?_) _
  obtain ⟨h1, h2, h3, h4⟩ := swB_dec hI h
  rw [decide_eq_true_eq]
  omega
theorem sameF_flipF {R C : Nat} {f g : Nat → Nat → Int} {s : Sw} (hI : Img R C g) (h : SameF R C f g) (hs : swF R C g s = true) : SameF R C f (flipF g s) := by
  obtain ⟨a, b, c, d, rfl, h4⟩ := swF_iff.1 hs
  exact sameF_trans h (sameF_symm (sameF_flip h4 hI))
/-- What MakePair answers. -/
def PairRes (w : World) (e : Ending) (w' : World) : Prop :=
  ∃ (v u : Value) (R C : Nat) (f g : Nat → Nat → Int), e = .returned (.tuple #[v, u]) ∧ Img R C f ∧ Img R C g ∧ SameF R C f g ∧ R ≤ 4 ∧ C ≤ 4 ∧ InMat w' v (mkM R C f) ∧ InMat w' u (mkM R C g) ∧ Below w.heap.size w w'
end Go.Proofs.Ytjnnoabaepmcnaa
/-
  The helpers of the laws that are no exact ones: same, alike.
-/
namespace Go.Proofs.Ytjnnoabaepmcnaa
open Go.RowKit
set_option maxHeartbeats 1000000 in
theorem same_any (va vb : Value) (r s : List Int) (w : World) (ha : InRow w va r) (hb : InRow w vb s) :
    Calls Try.prog 13 #[va, vb] w fun e w' => e = .returned (.bool (r == s)) ∧ w = w' := by
  obtain ⟨a, ca, rfl, hma, hpa⟩ := ha
  obtain ⟨b, cb, rfl, hmb, hpb⟩ := hb
  unfold maxLen at hma hmb
  by_cases hlen : r.length = s.length
  · by_cases h0 : r.length = 0
    · have hr : r = [] := List.eq_nil_of_length_eq_zero h0
      have hs : s = [] := List.eq_nil_of_length_eq_zero (by omega)
      subst hr; subst hs
      clear hpa hpb hma hmb hlen h0
      go_enter Try.func13, Try.ntmps13
      go_wp2
      go_loop [14] (fun i => i = .int .i64 0) (fun _ => 0)
      case atStart => rfl
      case round =>
        obtain rfl := hrel
        go_wp2
        go_ret
        exact ⟨rfl, rfl⟩
    · obtain ⟨ga, oa, rfl, -, hca⟩ := hpa.resolve_left h0
      obtain ⟨gb, ob, rfl, -, hcb⟩ := hpb.resolve_left (by omega)
      have HA := hide hca; have HB := hide hcb; have HL := hide hlen
      obtain ⟨n, hn⟩ : ∃ n, n = r.length := ⟨_, rfl⟩
      have HN := hide hn
      have HM : Hid (s.length = n) := hide (by omega)
      rw [← hlen, ← hn]
      rw [← hn] at hma
      clear hpa hpb hca hcb h0 hmb hlen hn
      go_enter Try.func13, Try.ntmps13
      go_wp2
      go_loop [14] (fun i => ∃ k : Nat, k ≤ n ∧ i = .int .i64 k ∧ ∀ t, (h1 : t < r.length) → (h2 : t < s.length) → t < k → r[t] = s[t]) (fun i => n - (intOf i).toNat)
      case atStart => exact ⟨0, Nat.zero_le _, rfl, fun t _ _ h => absurd h (Nat.not_lt_zero _)⟩
      case round =>
        obtain ⟨k, hk, rfl, hall⟩ := hrel
        have HH := hide hall
        clear hall
        by_cases hlt : k < n
        · have hkr : k < r.length := by rw [← HN.out]; exact hlt
          have hks : k < s.length := by rw [HM.out]; exact hlt
          have hxa := HA.out k hkr
          have hxb := HB.out k hks
          have HNO := hide (fun h => sameRow_no2 k hkr hks h)
          have HST : Hid (r[k] = s[k] → ∀ t, (h1 : t < r.length) → (h2 : t < s.length) → t < k + 1 → r[t] = s[t]) := hide fun h t h1 h2 ht => by
            by_cases e : t = k
            · subst e; exact h
            · exact HH.out t h1 h2 (by omega)
          obtain ⟨x, hx⟩ : ∃ x, x = r[k] := ⟨_, rfl⟩
          obtain ⟨y, hy⟩ : ∃ y, y = s[k] := ⟨_, rfl⟩
          rw [← hx, ← hy] at HNO HST
          rw [← hx] at hxa
          rw [← hy] at hxb
          clear hx hy
          by_cases e : x = y
          · subst e
            have HST := hide (HST.out rfl)
            go_wp2
            go_round
            case rel => exact ⟨k + 1, by omega, by go_num, HST.out⟩
            case measure => simp [intOf]; omega
          · have HF := hide (HNO.out e)
            have hne : (x == y) = false := by simpa using e
            have hne2 : (x != y) = true := by simpa using e
            clear e
            go_wp2
            go_ret
            exact ⟨ret_bool HF.out.symm, rfl⟩
        · have HY := hide (sameRow_yes HL.out fun t h1 h2 => HH.out t h1 h2 (by have := HN.out; omega))
          go_wp2
          go_ret
          exact ⟨ret_bool HY.out.symm, rfl⟩
  · have HF := hide (sameRow_no hlen)
    obtain ⟨n, hn⟩ : ∃ n, n = r.length := ⟨_, rfl⟩
    obtain ⟨k, hk⟩ : ∃ k, k = s.length := ⟨_, rfl⟩
    rw [← hn, ← hk] at hlen ⊢
    rw [← hn] at hma
    rw [← hk] at hmb
    have hne : ((n : Int) == (k : Int)) = false := by simp; omega
    have hne2 : ((n : Int) != (k : Int)) = true := by simp; omega
    clear hpa hpb hn hk hlen
    go_enter Try.func13, Try.ntmps13
    go_wp2
    go_ret
    exact ⟨ret_bool HF.out.symm, rfl⟩


set_option maxHeartbeats 1000000 in
theorem alike_any (va vb : Value) (m l : List (List Int)) (w : World) (ha : InMat w va m) (hb : InMat w vb l) :
    Calls Try.prog 26 #[va, vb] w fun e w' => e = .returned (.bool (m == l)) ∧ Below w.heap.size w w' := by
  obtain ⟨a, ca, rfl, hma, hpa⟩ := ha
  obtain ⟨b, cb, rfl, hmb, hpb⟩ := hb
  unfold maxLen at hma hmb
  by_cases hlen : m.length = l.length
  · by_cases h0 : m.length = 0
    · have hr : m = [] := List.eq_nil_of_length_eq_zero h0
      have hs : l = [] := List.eq_nil_of_length_eq_zero (by omega)
      subst hr; subst hs
      clear hpa hpb hma hmb hlen h0
      go_enter Try.func26, Try.ntmps26
      go_wp2
      go_loop [14] (fun i => i = .int .i64 0) (fun _ => 0)
      case atStart => rfl
      case round =>
        obtain rfl := hrel
        go_wp2
        go_ret
        exact ⟨rfl, Below.refl _ _⟩
    · obtain ⟨ga, oa, rfl, hga, hca⟩ := hpa.resolve_left h0
      obtain ⟨gb, ob, rfl, hgb, hcb⟩ := hpb.resolve_left (by omega)
      have HA := hide hca; have HB := hide hcb; have HL := hide hlen
      obtain ⟨n, hn⟩ : ∃ n, n = m.length := ⟨_, rfl⟩
      have HN := hide hn
      have HM : Hid (l.length = n) := hide (by omega)
      rw [← hlen, ← hn]
      rw [← hn] at hma
      clear hpa hpb hca hcb h0 hmb hlen hn
      go_enter Try.func26, Try.ntmps26
      go_wp2
      go_loopw [14] (fun i w' => ∃ k : Nat, k ≤ n ∧ i = .int .i64 k ∧ (∀ t, (h1 : t < m.length) → (h2 : t < l.length) → t < k → (m[t] == l[t]) = true) ∧ Below w.heap.size w w') (fun i _ => n - (intOf i).toNat)
      case atStart => exact ⟨0, Nat.zero_le _, rfl, fun t _ _ h => absurd h (Nat.not_lt_zero _), Below.refl _ _⟩
      case round =>
        obtain ⟨k, hk, rfl, hall, hbb⟩ := hrel
        have HH := hide hall; have HBB := hide hbb
        clear hall hbb
        by_cases hlt : k < n
        · have hkr : k < m.length := by rw [← HN.out]; exact hlt
          have hks : k < l.length := by rw [HM.out]; exact hlt
          obtain ⟨ua, hxa, hra⟩ := HA.out k hkr
          obtain ⟨ub, hxb, hrb⟩ := HB.out k hks
          have hxa := below_cell HBB.out hga hxa
          have hxb := below_cell HBB.out hgb hxb
          have HRA := hide (inRow_below hra HBB.out)
          have HRB := hide (inRow_below hrb HBB.out)
          have HNO := hide (fun h => sameMat_no2 k hkr hks h)
          have HST : Hid ((m[k] == l[k]) = true → ∀ t, (h1 : t < m.length) → (h2 : t < l.length) → t < k + 1 → (m[t] == l[t]) = true) := hide fun h t h1 h2 ht => by
            by_cases e : t = k
            · subst e; exact h
            · exact HH.out t h1 h2 (by omega)
          clear hra hrb
          cases e : (m[k] == l[k]) with
          | true =>
            have HE := hide e
            have HST := hide (HST.out e)
            clear e
            go_wp2_with (go_at_call 13; refine (same_any _ _ _ _ _ HRA.out HRB.out).mono ?_; rw [HE.out]; rintro e w9 ⟨rfl, rfl⟩)
            go_roundw
            case rel => exact ⟨k + 1, by omega, by go_num, HST.out, HBB.out⟩
            case measure => simp [intOf]; omega
          | false =>
            have HE := hide e
            have HF := hide (HNO.out e)
            clear e
            go_wp2_with (go_at_call 13; refine (same_any _ _ _ _ _ HRA.out HRB.out).mono ?_; rw [HE.out]; rintro e w9 ⟨rfl, rfl⟩)
            go_ret
            exact ⟨ret_bool HF.out.symm, HBB.out⟩
        · have HY := hide (sameMat_yes HL.out fun t h1 h2 => HH.out t h1 h2 (by have := HN.out; omega))
          go_wp2
          go_ret
          exact ⟨ret_bool HY.out.symm, HBB.out⟩
  · have HF := hide (sameMat_no hlen)
    obtain ⟨n, hn⟩ : ∃ n, n = m.length := ⟨_, rfl⟩
    obtain ⟨k, hk⟩ : ∃ k, k = l.length := ⟨_, rfl⟩
    rw [← hn, ← hk] at hlen ⊢
    rw [← hn] at hma
    rw [← hk] at hmb
    have hne : ((n : Int) == (k : Int)) = false := by simp; omega
    have hne2 : ((n : Int) != (k : Int)) = true := by simp; omega
    clear hpa hpb hn hk hlen
    go_enter Try.func26, Try.ntmps26
    go_wp2
    go_ret
    exact ⟨ret_bool HF.out.symm, Below.refl _ _⟩

theorem alike_yes (va vb : Value) (m : List (List Int)) (w : World) (ha : InMat w va m) (hb : InMat w vb m) :
    Calls Try.prog 26 #[va, vb] w fun e w' => e = .returned (.bool true) ∧ Below w.heap.size w w' := by
  have h := alike_any va vb m m w ha hb
  rw [beq_self_eq_true] at h; exact h
end Go.Proofs.Ytjnnoabaepmcnaa
/-
  The law FnTwoWays, walked.
-/
namespace Go.Proofs.Ytjnnoabaepmcnaa
open Go.RowKit Go.Katz
set_option maxRecDepth 100000

theorem rowS_succ (n : Nat) (g : Nat → Int) : ints (rowF (n + 1) g) = ints (rowF n g) ++ [.int .i64 (g n)] := by simp [rowF, ints, List.range_succ]
/-- The directions of rows and columns, as the literal lays them. -/
theorem twoD_lit (w : World) : DrsC (w.alloc (.cells #[.int .i64 1, .int .i64 0, .int .i64 0, .int .i64 1] 29)) (.slice (some ⟨w.heap.size, 0, none⟩) 2 2) twoD := by
  have h0 : (w.alloc (.cells #[.int .i64 1, .int .i64 0, .int .i64 0, .int .i64 1] 29)).heap[w.heap.size]? = some (.cells #[.int .i64 1, .int .i64 0, .int .i64 0, .int .i64 1] 29 (0, 0)) := heap_alloc_new w _
  refine ⟨_, 2, rfl, Nat.le_refl _, by unfold maxLen; omega, .inr ⟨w.heap.size, 0, rfl, by simp, fun i hi => ?_⟩⟩
  have hi2 : i < 2 := hi
  match i, hi2 with
  | 0, _ => exact ⟨by rw [cell_of_row _ _ _ _ _ _ h0]; rfl, by rw [cell_of_row _ _ _ _ _ _ h0]; rfl⟩
  | 1, _ => exact ⟨by rw [cell_of_row _ _ _ _ _ _ h0]; rfl, by rw [cell_of_row _ _ _ _ _ _ h0]; rfl⟩
theorem pair_lit (w : World) (p q : Int) : InRow (w.alloc (.cells #[.int .i64 p, .int .i64 q] 3)) (.slice (some ⟨w.heap.size, 0, none⟩) 2 2) [p, q] := by
  have h0 : (w.alloc (.cells #[.int .i64 p, .int .i64 q] 3)).heap[w.heap.size]? = some (.cells #[.int .i64 p, .int .i64 q] 3 (0, 0)) := heap_alloc_new w _
  refine ⟨_, 2, rfl, by unfold maxLen; simp, .inr ⟨w.heap.size, 0, rfl, by simp, fun i hi => ?_⟩⟩
  have hi2 : i < 2 := hi
  match i, hi2 with
  | 0, _ => rw [cell_of_row _ _ _ _ _ _ h0]; rfl
  | 1, _ => rw [cell_of_row _ _ _ _ _ _ h0]; rfl
end Go.Proofs.Ytjnnoabaepmcnaa
