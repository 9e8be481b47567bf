/-
  Texts of this claim, one behind the other: Iter, IterF, LawsI.
-/
import Derived.Test.YtjnnoabaepmcnaaGreatPackO
import Derived.Test.YtjnnoabaepmcnaaGreatPackM
import Derived.Test.YtjnnoabaepmcnaaGreatPackN
import Derived.Test.YtjnnoabaepmcnaaGreatPackE
import Derived.Test.YtjnnoabaepmcnaaGreatPackH
import Derived.RangeFuncLeaves
import Derived.Test.YtjnnoabaepmcnaaGreatPackK
/-
  The iterator over all images with given sums: what it hands on, and its blocks.
-/
namespace Go.Proofs.YtjnnoabaepmcnaaGreat
open Go.RowKit Go.Shelf
attribute [local go_sem] Oper.semAt_some

theorem own_agr {w w' : World} {base e n : Nat} {v : Value} {xs : List Value} (h : w.ownsRow base e 1 v n xs) (ha : ∀ k, v.ownBlock = some k → w'.heap[k]? = w.heap[k]?) : w'.ownsRow base e 1 v n xs := by
  refine ⟨h.1, ?_⟩
  rcases h.2 with hn | ⟨g, cap, cur, rfl, hbg, hg, r⟩
  · exact .inl hn
  · exact .inr ⟨g, cap, cur, rfl, hbg, by rw [ha g rfl]; exact hg, r⟩
/-- A list of rows in the blocks of G, from lo on, each row in a block of its own. -/
def ValM (v : Value) (m : List (List Int)) (lo : Nat) (G : Nat → Prop) (W : World) : Prop :=
  ∃ vs : List Value, (W.ownsRow lo 23 1 v m.length vs ∧ ∀ k, v.ownBlock = some k → G k) ∧
    (∀ i, (h : i < m.length) → W.ownsRow lo 3 1 (vs.getD i undef) m[i].length (ints m[i]) ∧ ∀ k, (vs.getD i undef).ownBlock = some k → G k) ∧
    ∀ i j, i < j → j < m.length → (vs.getD i undef).ownBlock = none ∨ (vs.getD i undef).ownBlock ≠ (vs.getD j undef).ownBlock
theorem valM_agr {v : Value} {m : List (List Int)} {lo : Nat} {G : Nat → Prop} {W W' : World} (h : ValM v m lo G W) (ha : ∀ k, G k → W'.heap[k]? = W.heap[k]?) : ValM v m lo G W' := by
  obtain ⟨vs, ⟨h1, h2⟩, h3, h4⟩ := h
  exact ⟨vs, ⟨own_agr h1 fun k hk => ha k (h2 k hk), h2⟩, fun i hi => ⟨own_agr (h3 i hi).1 fun k hk => ha k ((h3 i hi).2 k hk), (h3 i hi).2⟩, h4⟩
theorem valM_own {v : Value} {m : List (List Int)} {lo hi : Nat} {G : Nat → Prop} {W : World} (h : ValM v m lo G W) (hG : ∀ k, G k → k < hi) : OwnMat W lo hi v m := by
  obtain ⟨vs, ⟨h1, h2⟩, h3, h4⟩ := h
  exact ⟨vs, h1, fun k hk => hG k (h2 k hk), fun i hi => ⟨(h3 i hi).1, fun k hk => hG k ((h3 i hi).2 k hk)⟩, h4⟩

/-- What holds in every world that the caller's blocks may have turned. -/
def Safe (A : Nat → Prop) (W : World) (p : World → Prop) : Prop := ∀ A' W', ItStep A A' W W' → p W'
theorem safe_now {A : Nat → Prop} {W : World} {p : World → Prop} (h : Safe A W p) : p W := h _ _ (itStep_refl A W)
theorem safe_step {A A' : Nat → Prop} {W W' : World} {p : World → Prop} (h : Safe A W p) (k : ItStep A A' W W') : Safe A' W' p := fun _ _ h2 => h _ _ (itStep_trans k h2)
theorem safe_below {A : Nat → Prop} {W W' : World} {p : World → Prop} (h : Safe A W p) (k : Below W.heap.size W W') : Safe A W' p := safe_step h (itStep_below k)
theorem safe_and {A : Nat → Prop} {W : World} {p q : World → Prop} (h : Safe A W p) (k : Safe A W q) : Safe A W fun W' => p W' ∧ q W' := fun _ _ h2 => ⟨h _ _ h2, k _ _ h2⟩
theorem safe_imp {A : Nat → Prop} {W : World} {p q : World → Prop} (h : Safe A W p) (k : ∀ W', p W' → q W') : Safe A W q := fun _ _ h2 => k _ (h _ _ h2)
theorem safe_cell {A : Nat → Prop} {W : World} {a : Addr} {v : Value} (h : W.cell? a = some v) (hA : ¬ A a.block) : Safe A W fun W' => W'.cell? a = some v := fun _ W' h2 => by
  have hb := World.block_lt_of_cell? W a h
  exact (World.cell?_of_block (h2.1.block _ hb hA)).trans h
theorem safe_own {A : Nat → Prop} {W : World} {base e n : Nat} {v : Value} {xs : List Value} (h : W.ownsRow base e 1 v n xs) (hA : ∀ k, A k → k < base) : Safe A W fun W' => W'.ownsRow base e 1 v n xs := fun _ W' h2 =>
  own_agr h fun k hk => h2.1.block k (h.lt k hk).2 fun ha => by have := hA k ha; have := (h.lt k hk).1; omega
theorem safe_matT {A : Nat → Prop} {W : World} {lo : Nat} {v : Value} {m : List (List Int)} (h : MatT W lo v m) (hA : ∀ k, A k → k < lo) : Safe A W fun W' => MatT W' lo v m := fun A' W' h2 => by
  obtain ⟨vs, h1, h3⟩ := h
  exact ⟨vs, safe_own h1 hA A' W' h2, fun i hi => safe_own (h3 i hi) hA A' W' h2⟩

/-- A choice of first rows: those that may stand first, of them those that p lets by; in whatever world has grown out of W, at no more than n rows. -/
def ChF (gf : Nat) (lb : Array Value) (p : List Int → List Int → Bool) (n : Nat) (W : World) : Prop :=
  ∀ (vr vc : Value) (a : Int) (r c : List Int) (W' : World), Below W.heap.size W W' → InRow W' vr (a :: r) → InRow W' vc c → (a :: r).length ≤ n → (a :: r).length ≤ 5 → 1 ≤ c.length → Mid1000 c →
    Calls Tryz.prog gf (#[vr, vc] ++ lb) W' (RowsRes W'.heap.size ((firstRows a r c).filter (p r)) W')
theorem chF_below {gf : Nat} {lb : Array Value} {p : List Int → List Int → Bool} {n : Nat} {W W' : World} (h : ChF gf lb p n W) (hb : Below W.heap.size W W') : ChF gf lb p n W' :=
  fun vr vc a r c W2 h2 => h vr vc a r c W2 (hb.trans (h2.mono hb.size))
theorem chF_less {gf : Nat} {lb : Array Value} {p : List Int → List Int → Bool} {n m : Nat} {W : World} (h : ChF gf lb p n W) (hm : m ≤ n) : ChF gf lb p m W :=
  fun vr vc a r c W2 h2 h3 h4 h5 => h vr vc a r c W2 h2 h3 h4 (Nat.le_trans h5 hm)
/-- What an iterator over the images with sums r and c reads, by the blocks b1, b2 and b3. -/
def ItIn (b1 b2 b3 gf : Nat) (lb : Array Value) (p : List Int → List Int → Bool) (vr vc : Value) (r c : List Int) (W : World) : Prop :=
  W.cell? ⟨b1, 0, none⟩ = some vr ∧ W.cell? ⟨b2, 0, none⟩ = some vc ∧ W.cell? ⟨b3, 0, none⟩ = some (.func (.func gf) #[] lb) ∧ RowC W vr r ∧ InRow W vc c ∧ ChF gf lb p r.length W

theorem flat_prefix {LL : List (List Int)} {FF : List Int → List (List (List Int))} {j : Nat} {row : List Int} {X pre : List (List (List Int))} (ht : LL.take (j + 1) = LL.take j ++ [row]) (hF : FF row = X.map (row :: ·)) (hp : pre <+: X) : (LL.take j).flatMap FF ++ pre.map (row :: ·) <+: LL.flatMap FF := by
  obtain ⟨t, rfl⟩ := hp
  refine ⟨t.map (row :: ·) ++ (LL.drop (j + 1)).flatMap FF, ?_⟩
  conv => rhs; rw [← List.take_append_drop (j + 1) LL, ht, List.flatMap_append, List.flatMap_append, List.flatMap_cons, List.flatMap_nil, hF, List.map_append]
  simp
theorem flat_filter {α β : Type} (p : α → Bool) (f : α → List β) : ∀ l : List α, (l.flatMap fun x => if p x then f x else []) = (l.filter p).flatMap f
  | [] => rfl
  | x :: l => by
    rw [List.flatMap_cons, flat_filter p f l, List.filter_cons]
    cases p x <;> simp
theorem allL_first (a : Int) (r c : List Int) : allL (a :: r) c = (firstRows a r c).flatMap fun row => (allL r (subL c row)).map (row :: ·) := by
  rw [allL, firstRows, flat_filter]

theorem valM_below {v : Value} {m : List (List Int)} {lo : Nat} {G : Nat → Prop} {W W' : World} (h : ValM v m lo G W) (hb : Below W.heap.size W W') : ValM v m lo G W' := by
  obtain ⟨vs, ⟨h1, h2⟩, h3, h4⟩ := h
  exact ⟨vs, ⟨own_below h1 hb, h2⟩, fun i hi => ⟨own_below (h3 i hi).1 hb, (h3 i hi).2⟩, h4⟩
theorem valM_lt {v : Value} {m : List (List Int)} {lo : Nat} {G : Nat → Prop} {W : World} (h : ValM v m lo G W) : ValM v m lo (fun k => G k ∧ k < W.heap.size) W := by
  obtain ⟨vs, ⟨h1, h2⟩, h3, h4⟩ := h
  exact ⟨vs, ⟨h1, fun k hk => ⟨h2 k hk, (h1.lt k hk).2⟩⟩, fun i hi => ⟨(h3 i hi).1, fun k hk => ⟨(h3 i hi).2 k hk, ((h3 i hi).1.lt k hk).2⟩⟩, h4⟩
/-- 'append([][]int{row}, below...)': the row lies behind what it is put ahead of. -/
theorem exec_consVal {ρ : Operand → Value} {o : Oper} {w : World} {x y : Operand} {b lo B : Nat} {v2 urow : Value} {row : List Int} {m2 : List (List Int)} {G : Nat → Prop}
    (ho : o.op = .call { callee := .builtin .append, args := #[x, y], argTypes := #[22, 22] }) (hx : ρ x = .slice (some ⟨b, 0, none⟩) 1 1) (hy : ρ y = v2)
    (hown : w.ownsRow b 23 1 (.slice (some ⟨b, 0, none⟩) 1 1) 1 [urow]) (hrow : w.ownsRow B 3 1 urow row.length (ints row)) (hm : ValM v2 m2 lo G w) (hB : lo ≤ B) (hBb : B ≤ b) (hG : ∀ k, G k → k < B) (h5 : m2.length ≤ 1000) (h6 : b < w.heap.size) :
    ∃ v' w', (execOp ρ o).run Tryz.prog w = .ok (.value v') w' ∧ ValM v' (row :: m2) lo (fun k => G k ∨ B ≤ k) w' ∧ w.grownBy w' (some b) := by
  obtain ⟨vs, ⟨hv, hvh⟩, hvr, hva⟩ := hm
  have hvl : vs.length = m2.length := by have := hv.1; omega
  obtain ⟨i0, hi0', hz0, hz1, hz2⟩ := info_parts Tryz.infoInts
  have key : ∃ v' w', (Builtin.append_ #[22, 22] o.type #[.slice (some ⟨b, 0, none⟩) 1 1, v2]).run Tryz.prog w = .ok v' w' ∧ w'.ownsRow b 23 1 v' (1 + m2.length) ([urow] ++ vs) ∧ w.grownBy w' (some b) := by
    rcases hv.2 with ⟨rfl, h0⟩ | ⟨g, cap, cur, rfl, hbg, hg, hc, hmx, hcs, htk⟩
    · have hvs : vs = [] := List.eq_nil_of_length_eq_zero (by omega)
      refine ⟨_, w, run_append_owned_none (P := Tryz.prog) w b 22 o.type 23 i0 1 Tryz.underlying22 hi0' _ 1 [urow] hown, ?_, ⟨rfl, rfl, rfl, Nat.le_refl _, fun _ _ _ => rfl⟩⟩
      rw [hvs, h0]; exact hown
    · obtain ⟨v', w', hr, g1, g2, -⟩ := run_append_own (P := Tryz.prog) w b 22 o.type 23 i0 (.slice none 0 0) 1 24 Tryz.underlying22 hi0' hz0 hz1 hz2 rfl (by decide) _ 1 [urow] hown ⟨g, 0, none⟩ m2.length cap vs (by omega) (fun j u hj => by
          rw [addr_add, Nat.zero_add]
          have hj' : j < m2.length := by have := (List.getElem?_eq_some_iff.1 hj).1; omega
          rw [hv.cellAt j (by omega), hj]) (fun u hu => by
          obtain ⟨j, hj, rfl⟩ := List.getElem_of_mem hu
          obtain ⟨q1, -⟩ := hvr j (by omega)
          rw [List.getD_eq_getElem?_getD, List.getElem?_eq_getElem hj, Option.getD_some] at q1
          obtain ⟨a, c, e⟩ := own_slice q1
          rw [e]; rfl) (by unfold maxLen; omega) (by omega) (by omega)
      exact ⟨v', w', hr, g1, g2⟩
  obtain ⟨v', w', hr, g1, g2⟩ := key
  have hkeep : ∀ {lo n : Nat} {u : Value} {xs : List Value}, w.ownsRow lo 3 1 u n xs → w'.ownsRow lo 3 1 u n xs := fun {lo n u xs} h => h.kept g2 (by
    have := own_types h hown (by decide)
    simpa [Value.ownBlock] using this)
  refine ⟨v', w', ?_, ⟨urow :: vs, ⟨?_, fun k e => .inr (Nat.le_trans hBb (g1.lt k e).1)⟩, fun i h => ?_, fun i j hij hj => ?_⟩, g2⟩
  · unfold execOp
    simp only [ho, resolve, invoke, builtin, Sem.run_bind, Sem.run_pure, Result.andThen_ok, List.map_toArray, List.map_cons, List.map_nil, hx, hy, hr]
  · have := own_base (base' := lo) g1 (by omega)
    rw [List.length_cons, Nat.add_comm]; exact this
  · cases i with
    | zero => exact ⟨own_base (hkeep hrow) hB, fun k hk => .inr (hrow.lt k hk).1⟩
    | succ i =>
      have hi' : i < m2.length := by simpa using h
      obtain ⟨q1, q2⟩ := hvr i hi'
      exact ⟨hkeep q1, fun k hk => .inl (q2 k hk)⟩
  · cases j with
    | zero => omega
    | succ j =>
      have hj' : j < m2.length := by simpa using hj
      cases i with
      | zero =>
        show urow.ownBlock = none ∨ urow.ownBlock ≠ (vs.getD j undef).ownBlock
        cases hk : urow.ownBlock with
        | none => exact .inl rfl
        | some k =>
          refine .inr fun e => ?_
          have q1 := (hrow.lt k hk).1
          have q2 := hG k ((hvr j hj').2 k e.symm)
          omega
      | succ i => exact hva i j (by omega) hj'
/-- A call of yield. -/
theorem wpIn_yield {P : Program} {Q : Exit → Act → World → Prop} {l2 n l : Nat} {o : Oper} {a : Act} {w : World} {K : Act → World → Prop} {x : Operand} {xs : Array Operand} {ts : Array TypeId} (ho : o.op = .call { callee := .value x, args := xs, argTypes := ts })
    (hx : a.eval x = .func (.yield l) #[] #[]) (args : Array Value) (hxs : xs.map a.eval = args) (h : YieldAt Fence.wide 0 P l args w fun e w' => ∃ v, e = .returned v ∧ K (a.put o.dst v) w') : o.wpIn (Fence.wide.inRound l2) n P a w K Q := by
  subst hxs
  obtain ⟨fn, tmps, assign, body, hy, hR⟩ := yieldAt_any (m' := n - 1) h
  refine ⟨fun f _ => trivial, ?_⟩
  rw [Fence.inRound_round, Oper.semAt_some l2 _ _ (by rw [ho]; intro c hc; cases hc)]
  simp only [execOp, ho, resolve, hx, Deferred.ofValue]
  simp only [Sem.run_bind, Sem.run_pure, Result.andThen_ok, invoke, Array.empty_append, hy]
  refine ⟨fun h => by simp [Fence.wide] at h, (show RoundIn Fence.wide (n - 1) P l fn tmps assign body w _ from hR.mono fun e w' hh => ?_)⟩
  obtain ⟨v, rfl, hk⟩ := hh
  exact hk
/-- A list of one row, and the row. -/
def oneRowE (B : Nat) (row : List Int) : FactP := fun u w => ∃ b r0, u = .slice (some ⟨b, 0, none⟩) 1 1 ∧ B ≤ b ∧ b < w.heap.size ∧ w.ownsRow b 23 1 (.slice (some ⟨b, 0, none⟩) 1 1) 1 [r0] ∧ w.ownsRow B 3 1 r0 row.length (ints row)
theorem stable_oneRowE (B : Nat) (row : List Int) : StableP (oneRowE B row) := fun _ _ _ hb h => by
  obtain ⟨b, r0, h1, h2, h3, h4, h5⟩ := h
  exact ⟨b, r0, h1, h2, Nat.lt_of_lt_of_le h3 hb.size, own_below h4 hb, own_below h5 hb⟩
def valF (m : List (List Int)) (lo : Nat) (G : Nat → Prop) : FactP := fun u w => ValM u m lo G w
theorem stable_valF (m : List (List Int)) (lo : Nat) (G : Nat → Prop) : StableP (valF m lo G) := fun _ _ _ hb h => valM_below h hb

set_option maxRecDepth 100000 in
theorem imagesBy_any (vr vc : Value) (gf : Nat) (lb : Array Value) (r c : List Int) (w : World) (hr : RowC w vr r) (hc : InRow w vc c) :
    Calls Tryz.prog 61 #[vr, vc, .func (.func gf) #[] lb] w fun e w' => e = .returned (.func (.func 67) #[] #[.pointer (some ⟨w.heap.size, 0, none⟩), .pointer (some ⟨w.heap.size + 2, 0, none⟩), .pointer (some ⟨w.heap.size + 1, 0, none⟩)]) ∧
      w'.cell? ⟨w.heap.size, 0, none⟩ = some vr ∧ w'.cell? ⟨w.heap.size + 1, 0, none⟩ = some vc ∧ w'.cell? ⟨w.heap.size + 2, 0, none⟩ = some (.func (.func gf) #[] lb) ∧ Below w.heap.size w w' ∧ w'.heap.size = w.heap.size + 3 := by
  obtain ⟨-, a1, c1, rfl, -, -⟩ := hr
  obtain ⟨a2, c2, rfl, -, -⟩ := hc
  generalize r.length = n1
  generalize c.length = n2
  go_enter Tryz.func61, Tryz.ntmps61
  go_wp2
  go_ret
  refine ⟨rfl, ?_, ?_, ?_, (((Below.refl _ w).alloc (Nat.le_refl _) _).alloc (by simp) _).alloc (by simp; omega) _, by simp⟩
  · simp [go_sem]
  · simp [go_sem]
  · simp [go_sem]

set_option maxRecDepth 100000 in
set_option maxHeartbeats 2000000 in
theorem iter_nil (c : List Int) (b1 b2 b3 gf : Nat) (lb : Array Value) (p : List Int → List Int → Bool) (vr vc : Value) (A : Nat → Prop) (W : World) (hin : Safe A W (ItIn b1 b2 b3 gf lb p vr vc [] c)) (hA : ∀ k, A k → k < W.heap.size) :
    EachC Tryz.prog 67 #[.pointer (some ⟨b1, 0, none⟩), .pointer (some ⟨b3, 0, none⟩), .pointer (some ⟨b2, 0, none⟩)] (imL p [] c) ValM W A := by
  intro l J Jx hJ hJx hJA hY h0
  obtain ⟨h1, h2, h3, h4, h5, -⟩ := safe_now hin
  obtain ⟨⟨a1, c1, rfl, -, -⟩, -⟩ := h4
  have HW := hide ((Below.refl W.heap.size W).alloc (Nat.le_refl _) (.cells #[.func (.yield l) #[] #[]] 34))
  have HB1 := hide (World.block_lt_of_cell? W _ h1)
  have HY := hide (hY [] A [] (.slice none 0 0) W.heap.size (fun _ => False) (W.alloc (.cells #[.func (.yield l) #[] #[]] 34)) (abidF_below hJ h0 HW.out) (List.prefix_refl _) (itStep_below HW.out)
    ⟨[], ⟨World.ownsRow_nil _ _ _ _, fun k hk => by simp [Value.ownBlock] at hk⟩, fun i hi => absurd hi (Nat.not_lt_zero _), fun i j _ hj => absurd hj (Nat.not_lt_zero _)⟩ (Nat.le_refl _) HW.out.size hA (fun k hk => hk.elim))
  have h1' := below_cell HW.out HB1.out h1
  clear h0 hin hA hY hJ hJx hJA h1 h2 h3 h5
  refine (callsIn_wide (n := 0)).1 ?_
  refine callsIn_of_wp Tryz.func67 rfl trivial ?_ rfl
  simp only [Tryz.ntmps67, List.size_toArray, List.length_cons, List.length_nil, Nat.reduceAdd, Nat.reduceSub, Array.replicate_succ, Array.replicate_zero, List.push_toArray, List.append_toArray, List.nil_append, List.cons_append]
  obtain ⟨fn, tmps, assign, body, hy, hR⟩ := HY.out
  gi_wp2
  refine ⟨rfl, hR.mono ?_⟩
  rintro e W3 (⟨rfl, A2, hJ3, hg⟩ | ⟨rfl, A2, hJ3, hg⟩)
  · have HJ3 := hide (And.intro hJ3 (itGive_trans (itStep_below (A := A) HW.out) hg (fun i hi => hi.elim)))
    clear hJ3 hg hy hR h1'
    gi_wp2
    refine bodyPost_ret (results_none rfl _ _ _) rfl ?_
    exact ⟨⟨_, rfl⟩, A2, .inl ⟨HJ3.out.1, HJ3.out.2⟩⟩
  · have HJ3 := hide hJ3
    clear hJ3 hg hy hR h1'
    gi_wp2
    refine bodyPost_ret (results_none rfl _ _ _) rfl ?_
    exact ⟨⟨_, rfl⟩, A2, .inr ⟨_, List.prefix_refl _, HJ3.out⟩⟩
def markD (k : Nat) : Deferred := { target := .collected k, args := #[] }
/-- A function leaves with the marks of its ranges over functions. -/
theorem leaves_marks {F : Fence} {n : Nat} {P : Program} {fn : Func} {tmps : Array Value} {R : Ending → World → Prop} (Pr : World → Prop) (hR : ∀ W, Pr W → LeavesInM F n P fn tmps R [] .returning W) :
    ∀ (ks : List Nat) (W : World), (∀ k ∈ ks, ∀ W', Pr W' → W'.heap[k]? = some (.deferred (some [])) → Pr (W'.putObj k (.deferred none))) → ks.Nodup → (∀ k ∈ ks, W.heap[k]? = some (.deferred (some []))) → Pr W → LeavesInM F n P fn tmps R (ks.map markD) .returning W
  | [], W, _, _, _, h => hR W h
  | k :: ks, W, hp, hn, hk, h => by
    refine ⟨by simp, .inl ⟨k, _, rfl, run_takeDeferred (hk k (by simp)), ?_⟩⟩
    refine leaves_marks Pr hR ks _ (fun i hi => hp i (List.mem_cons_of_mem _ hi)) (List.nodup_cons.1 hn).2 (fun i hi => ?_) (hp k (by simp) W h (hk k (by simp)))
    rw [World.putObj_heap_other (fun e => (List.nodup_cons.1 hn).1 (by rw [← e]; exact hi))]
    exact hk i (List.mem_cons_of_mem _ hi)

set_option maxRecDepth 100000 in
set_option maxHeartbeats 1000000 in
theorem iter_cons (gf : Nat) (eg : ∀ args w, (callFunc gf args).run Tryz.prog w = .ok (.enter gf args) w) (lb : Array Value) (p : List Int → List Int → Bool) (a : Int) (r : List Int) (ih : ∀ (c : List Int) (b1 b2 b3 : Nat) (vr vc : Value) (A : Nat → Prop) (W : World), Safe A W (ItIn b1 b2 b3 gf lb p vr vc r c) → (∀ k, A k → k < W.heap.size) → 1 ≤ c.length ∧ c.length ≤ 5 → Mid1000 c →
      EachC Tryz.prog 67 #[.pointer (some ⟨b1, 0, none⟩), .pointer (some ⟨b3, 0, none⟩), .pointer (some ⟨b2, 0, none⟩)] (imL p r c) ValM W A)
    (c : List Int) (b1 b2 b3 : Nat) (vr vc : Value) (A : Nat → Prop) (W : World) (hin : Safe A W (ItIn b1 b2 b3 gf lb p vr vc (a :: r) c)) (hA : ∀ k, A k → k < W.heap.size) (hr5 : (a :: r).length ≤ 5) (hC : 1 ≤ c.length ∧ c.length ≤ 5) (hM : Mid1000 c) :
    EachC Tryz.prog 67 #[.pointer (some ⟨b1, 0, none⟩), .pointer (some ⟨b3, 0, none⟩), .pointer (some ⟨b2, 0, none⟩)] (imL p (a :: r) c) ValM W A := by
  intro l J Jx hJ hJx hJA hY h0
  rw [imL] at hY ⊢
  obtain ⟨h1, h2, hf3, h3, h4, hch⟩ := safe_now hin
  have HB1 := hide (World.block_lt_of_cell? W _ h1)
  have HB2 := hide (World.block_lt_of_cell? W _ h2)
  have HB3 := hide (World.block_lt_of_cell? W _ hf3)
  obtain ⟨W1, hW1⟩ : ∃ W1, W1 = W.alloc (.cells #[.func (.yield l) #[] #[]] 34) := ⟨_, rfl⟩
  have HW := hide (show Below W.heap.size W W1 by rw [hW1]; exact (Below.refl W.heap.size W).alloc (Nat.le_refl _) _)
  have HS1 := hide (show W1.heap.size = W.heap.size + 1 by rw [hW1]; simp)
  have HYC := hide (show W1.cell? ⟨W.heap.size, 0, none⟩ = some (.func (.yield l) #[] #[]) by rw [hW1]; simp [World.cell?_alloc_new])
  have HRA := hide (hch vr vc a r c W1 HW.out (inRow_below h3.1 HW.out) (inRow_below h4 HW.out) (Nat.le_refl _) hr5 hC.1 hM)
  have h1' := below_cell HW.out HB1.out h1
  have h2' := below_cell HW.out HB2.out h2
  have hf3' := below_cell HW.out HB3.out hf3
  obtain ⟨⟨a1, c1, rfl, -, -⟩, -⟩ := h3
  obtain ⟨a2, c2, rfl, -, -⟩ := h4
  have HIN := hide (safe_below hin HW.out)
  have HST := hide (itStep_below (A := A) HW.out)
  have HA := hide hA; have HJ := hide hJ; have HJX := hide hJx; have HJA := hide hJA; have HY := hide hY; have HC := hide hC
  have H0 := hide (abidF_below hJ h0 HW.out)
  have HR5 := hide hr5; have HM := hide hM
  have HIH := hide ih
  obtain ⟨N1, hN1⟩ : ∃ N1, N1 = (a :: r).length := ⟨_, rfl⟩
  have HN1 := hide hN1
  have hn0 : N1 ≠ 0 := by rw [hN1]; simp
  have hn5 : N1 ≤ 5 := by rw [hN1]; exact hr5
  rw [← hN1] at h1' HRA
  obtain ⟨N2, hN2⟩ : ∃ N2, N2 = c.length := ⟨_, rfl⟩
  have HN2 := hide hN2
  rw [← hN2] at h2' HRA
  obtain ⟨LL, hLL⟩ : ∃ LL, LL = (firstRows a r c).filter (p r) := ⟨_, rfl⟩
  have HLL := hide hLL
  rw [← hLL] at HRA HY ⊢
  obtain ⟨FF, hFF⟩ : ∃ FF : List Int → List (List (List Int)), FF = fun row => (imL p r (subL c row)).map (row :: ·) := ⟨_, rfl⟩
  have HFF := hide hFF
  rw [← hFF] at HY ⊢
  clear hFF ih h0 hin hA hY hJ hJx hJA h1 h2 hf3 hch hC hM hr5 hN1 hN2 hLL
  refine (callsIn_wide (n := 0)).1 ?_
  refine callsIn_of_wp_marks Tryz.func67 rfl trivial ?_ rfl
  simp only [Tryz.ntmps67, List.size_toArray, List.length_cons, List.length_nil, Nat.reduceAdd, Nat.reduceSub, Array.replicate_succ, Array.replicate_zero, List.push_toArray, List.append_toArray, List.nil_append, List.cons_append]
  rw [hW1] at h1' h2' hf3'
  gi_wp2_with fail
  rw [← hW1]
  clear hW1 h1' h2' hf3'
  refine ⟨trivial, rfl, (callsIn_wide (n := 0)).2 (HRA.out.mono ?_)⟩
  rintro e W2 ⟨u, rfl, hmat, hb⟩
  obtain ⟨vs, hmv, hmr⟩ := hmat
  obtain ⟨ar, cr, rfl⟩ := own_slice hmv
  have HLM := hide (show LL.length ≤ 1000 by rw [HLL.out]; exact Nat.le_trans (List.length_filter_le _ _) (Nat.le_trans (List.length_filter_le _ _) (Nat.le_trans (rowsL_ten _ _ HC.out.2) (by decide))))
  obtain ⟨NL, hNL⟩ : ∃ NL, NL = LL.length := ⟨_, rfl⟩
  have HNL := hide hNL
  rw [← hNL] at hmv HLM ⊢
  have hAW1 : ∀ k, A k → k < W1.heap.size := fun k hk => by have := HA.out k hk; have := HS1.out; omega
  have HST2 := hide (itStep_trans HST.out (itStep_below (A := A) hb))
  have HIN2 := hide (safe_below HIN.out hb)
  have HMT2 := hide (show Safe A W2 fun W' => W'.ownsRow W1.heap.size 23 1 (.slice ar NL cr) NL vs ∧ ∀ i (h : i < LL.length), W'.ownsRow W1.heap.size 3 1 (vs.getD i undef) LL[i].length (ints LL[i]) from safe_and (safe_own hmv hAW1) fun A' W' h i hi => safe_own (hmr i hi) hAW1 A' W' h)
  have HYC2 := hide (safe_cell (A := A) (below_cell hb (by have := HS1.out; omega) HYC.out) (fun h => Nat.lt_irrefl _ (HA.out _ h)))
  have H02 := hide (abidF_below (abidF_mono HJ.out (Nat.le_refl _)) H0.out hb)
  have HS2 := hide (show W1.heap.size ≤ W2.heap.size from hb.size)
  clear hmv hmr hb hAW1 hNL HRA
  have hL1 := HLM.out
  gi_wp2_with fail
  refine wpIn_loop (fun a' wr => ∃ (u6 u7 u19 u20 u21 u22 u23 u24 u25 u26 u27 u28 u29 u30 u31 u32 u33 u34 u35 u36 u37 u38 : Value) (ks : List Nat) (j : Nat) (A' : Nat → Prop), a' = { tmps := #[.func (.yield l) #[] #[], .pointer (some ⟨b1, 0, none⟩), .pointer (some ⟨b3, 0, none⟩), .pointer (some ⟨b2, 0, none⟩), .pointer (some ⟨W.heap.size, 0, none⟩), undef, u6, u7, .slice a1 N1 c1, .int .i64 N1, .bool false, undef, undef, .func (.func gf) #[] lb, .slice a1 N1 c1, .slice a2 N2 c2, .slice ar NL cr, .int .i64 NL, .int .i64 j, u19, u20, u21, u22, u23, u24, u25, u26, u27, u28, u29, u30, u31, u32, u33, u34, u35, u36, u37, u38], defers := ks.map markD } ∧ j ≤ NL ∧ J ((LL.take j).flatMap FF) A' wr ∧ ItStep A A' W2 wr ∧ ks.Nodup ∧ ∀ k ∈ ks, wr.heap[k]? = some (.deferred (some [])) ∧ W2.heap.size ≤ k ∧ ¬ A' k)
    (fun a' _ => NL - (intOf (a'.tmps.getD 18 undef)).toNat) ⟨undef, undef, undef, undef, undef, undef, undef, undef, undef, undef, undef, undef, undef, undef, undef, undef, undef, undef, undef, undef, undef, undef, [], 0, A, rfl, Nat.zero_le _, by simpa using H02.out, itStep_refl _ _, List.nodup_nil, fun k hk => by simp at hk⟩ ?_
  rintro _ wr ⟨u6, u7, u19, u20, u21, u22, u23, u24, u25, u26, u27, u28, u29, u30, u31, u32, u33, u34, u35, u36, u37, u38, ks, j, A', rfl, hj, hJ', hst, hnd, hks⟩
  have HJ' := hide hJ'; have HSTR := hide hst; have HKS := hide (And.intro hnd hks)
  clear hJ' hst hnd hks
  by_cases hlt : j < NL
  · have hjL : j < LL.length := by rw [← HNL.out]; exact hlt
    obtain ⟨hv, hrows⟩ := HMT2.out A' wr HSTR.out
    have HROW := hide (hrows j hjL)
    obtain ⟨row, hrow⟩ : ∃ row, row = LL[j] := ⟨_, rfl⟩
    rw [← hrow] at HROW
    have HTK := hide (show LL.take (j + 1) = LL.take j ++ [row] by rw [hrow]; exact List.take_succ_eq_append_getElem hjL)
    have hmem : row ∈ firstRows a r c := (List.mem_filter.1 (show row ∈ (firstRows a r c).filter (p r) by rw [← HLL.out, hrow]; exact List.getElem_mem hjL)).1
    have hro : RowOf c.length a row := (mem_rowsL _ _ _).1 (List.mem_filter.1 hmem).1
    have HRO := hide hro
    have HIMG := hide ((restB_iff (by have := HR5.out; simp at this; omega) (by rw [subL_len]; exact HC.out)).1 (List.mem_filter.1 hmem).2)
    have HRL := hide (show row.length = N2 by rw [HN2.out]; exact hro.1)
    obtain ⟨g, cap, hsl, -, -, -, -, -, -⟩ := own_some hv (by omega)
    obtain ⟨rfl, rfl⟩ : ar = some ⟨g, 0, none⟩ ∧ cr = cap := by cases hsl; exact ⟨rfl, rfl⟩
    have hx := cell_held hv hlt
    have HRS := hide (show Safe A W2 fun W' => W'.ownsRow W1.heap.size 3 1 (vs.getD j undef) row.length (ints row) from safe_imp HMT2.out fun W' h => by rw [hrow]; exact h.2 j hjL)
    obtain ⟨uj, huj⟩ : ∃ uj, uj = vs.getD j undef := ⟨_, rfl⟩
    rw [← huj] at HROW hx HRS
    obtain ⟨au, cu, rfl⟩ := own_slice HROW.out
    rw [HRL.out] at HROW hx
    clear hv hrows hrow hmem hro hsl huj hjL
    obtain ⟨h1', h2', hf3', h3', h4', -⟩ := HIN2.out A' wr HSTR.out
    obtain ⟨⟨a1', c1', he, hm1, hp1⟩, -⟩ := id h3'
    cases he
    obtain ⟨gr, or', rfl, hgr, hcell⟩ := hp1.resolve_left (by simp)
    have hcap : r.length + 1 ≤ c1 ∧ c1 ≤ maxLen := by
      obtain ⟨-, x2, y2, he2, h2, h3⟩ := h3'
      cases he2
      simpa using ⟨h2, h3⟩
    obtain ⟨hcap1, hcap2⟩ := hcap
    obtain ⟨at1, hat1⟩ : ∃ at1, at1 = if c1 = 1 then some (⟨gr, or', none⟩ : Addr) else some ⟨gr, or' + 1, none⟩ := ⟨_, rfl⟩
    have HAT := hide hat1
    have htail := rowC_tail h3'
    rw [← hat1] at htail
    rw [← HN1.out] at htail h1'
    rw [← HN2.out] at h2'
    obtain ⟨W5, hW5⟩ : ∃ W5, W5 = wr.alloc (.cells #[.slice au N2 cu] 23) := ⟨_, rfl⟩
    have HB5 := hide (show Below wr.heap.size wr W5 by rw [hW5]; exact (Below.refl wr.heap.size wr).alloc (Nat.le_refl _) _)
    have HS5 := hide (show W5.heap.size = wr.heap.size + 1 by rw [hW5]; simp)
    have HQC := hide (show W5.cell? ⟨wr.heap.size, 0, none⟩ = some (.slice au N2 cu) by rw [hW5]; simp [World.cell?_alloc_new])
    have HTL := hide (rowC_below htail HB5.out)
    have HQ1 := hide (below_cell HB5.out (World.block_lt_of_cell? wr _ h1') h1')
    have HQ2 := hide (below_cell HB5.out (World.block_lt_of_cell? wr _ h2') h2')
    have HL1 := hide (show b1 < W5.heap.size from Nat.lt_of_lt_of_le (World.block_lt_of_cell? wr _ h1') HB5.out.size)
    have HQ3 := hide (below_cell HB5.out (World.block_lt_of_cell? wr _ hf3') hf3')
    have HL3 := hide (show b3 < W5.heap.size from Nat.lt_of_lt_of_le (World.block_lt_of_cell? wr _ hf3') HB5.out.size)
    have HL2 := hide (show b2 < W5.heap.size from Nat.lt_of_lt_of_le (World.block_lt_of_cell? wr _ h2') HB5.out.size)
    have HCR := hide (show InRow W5 (.slice a2 N2 c2) c by rw [HN2.out]; exact inRow_below h4' HB5.out)
    have HUR := hide (show InRow W5 (.slice au N2 cu) row by have h := HROW.out; rw [← HRL.out] at h ⊢; exact inRow_below (inRow_own h) HB5.out)
    have hc1r : N1 ≤ c1 := by rw [HN1.out]; exact hcap1
    unfold maxLen at hcap2
    clear h1' h2' hf3' h3' h4' hm1 hp1 hgr hcell hat1 htail hcap1
    gi_wp2_with fail
    rw [← hW5]
    clear hW5 hx
    rw [wpIn_wide]
    obtain ⟨fs, hfs⟩ : ∃ fs : List FactP, fs = [isV (.slice (some ⟨gr, or', none⟩) N1 c1), isV (.slice at1 (N1 - 1) (c1 - 1)), isV (.slice a2 N2 c2), isV (.slice au N2 cu), ownI W5.heap.size (subL c row), isV (.func (.func gf) #[] lb)] := ⟨_, rfl⟩
    have hst : ∀ f ∈ fs, StableP f := by
      rw [hfs]; intro f hf
      simp only [List.mem_cons, List.not_mem_nil, or_false] at hf
      rcases hf with rfl | rfl | rfl | rfl | rfl | rfl <;> first | exact stable_v _ | exact stable_ownI _ _
    subst hfs
    have hS1 : ∀ (w2 w3 : World), Below W5.heap.size W5.drew w2 → Below w2.heap.size w2 w3 → Below W5.heap.size W5.drew w3 := fun w2 w3 h k => h.trans (k.mono h.size)
    have hS0 : ∀ w2 : World, Below W5.heap.size W5.drew w2 → Below W5.heap.size W5 w2 := fun w2 h => (below_drew (Below.refl _ W5)).trans h
    refine wp_region_tail (S := fun w2 => Below W5.heap.size W5.drew w2) [isV (.slice (some ⟨gr, or', none⟩) N1 c1), isV (.slice at1 (N1 - 1) (c1 - 1)), isV (.slice a2 N2 c2), isV (.slice au N2 cu), ownI W5.heap.size (subL c row), isV (.func (.func gf) #[] lb)] [(1, .pointer (some ⟨b1, 0, none⟩)), (2, .pointer (some ⟨b3, 0, none⟩)), (3, .pointer (some ⟨b2, 0, none⟩)), (6, .pointer (some ⟨wr.heap.size, 0, none⟩))] _ _ 6 (by kernel_rfl) rfl rfl (by kernel_rfl) (by kernel_rfl) rfl (by kernel_rfl) ?base (Below.refl _ _) ?ob rfl ?fin
    case base =>
      intro t v ht
      simp only [List.lookup_cons, List.lookup_nil] at ht
      repeat' split at ht
      all_goals first | (cases ht; done) | (obtain rfl := Option.some.inj ht; rename_i hh; obtain rfl := eq_of_beq hh; rfl)
    case ob =>
      exact ⟨obt_one (.slice (some ⟨gr, or', none⟩) N1 c1) rfl rfl (srt_b 1 rfl) (fun ρ w2 hS hx => by have hv := below_cell (hS0 _ hS) HL1.out HQ1.out; go_simp),
        obt_two (.slice at1 (N1 - 1) (c1 - 1)) rfl rfl (srt_j 0 rfl (by kernel_rfl) rfl) (srt_c (v := .int .i64 1)) (fun ρ wy hS hx hy => by have hat := HAT.out; go_simp; intro h; omega),
        obt_one (.slice a2 N2 c2) rfl rfl (srt_b 3 rfl) (fun ρ w2 hS hx => by have hv := below_cell (hS0 _ hS) HL2.out HQ2.out; go_simp),
        obt_one (.slice au N2 cu) rfl rfl (srt_b 6 rfl) (fun ρ w2 hS hx => by have hv := below_cell (hS0 _ hS) (show wr.heap.size < W5.heap.size by have := HS5.out; omega) HQC.out; go_simp),
        obt_call hst [.slice a2 N2 c2, .slice au N2 cu] rfl Tryz.func68 (by kernel_rfl) (by kernel_rfl) rfl ⟨srt_j 2 rfl (by kernel_rfl) rfl, srt_j 3 rfl (by kernel_rfl) rfl, trivial⟩ (fun w2 hS => by
          refine (sumsWithout_any _ _ c row w2 (inRow_below HCR.out (hS0 _ hS)) (inRow_below HUR.out (hS0 _ hS)) HRO.out.1 HC.out.2 HM.out.2 (fun x hx => (mid_rowOf HRO.out HC.out.2).2 x (by rw [HRO.out.1]; exact hx))).mono ?_
          rintro e w3 ⟨u, rfl, ho, hb3⟩
          exact ⟨u, rfl, hS1 _ _ hS hb3, hb3, own_base ho hS.size⟩),
        obt_one (.func (.func gf) #[] lb) rfl rfl (srt_b 2 rfl) (fun ρ w2 hS hx => by have hv := below_cell (hS0 _ hS) HL3.out HQ3.out; go_simp),
        trivial⟩
    case fin =>
      intro a' w6 h1 h2 h3 hS h4 K hK
      have h23 : a'.tmps.getD 23 undef = .slice at1 (N1 - 1) (c1 - 1) := h4 1 23 rfl (by decide)
      have h26 : ownI W5.heap.size (subL c row) (a'.tmps.getD 26 undef) w6 := h4 4 26 rfl (by decide)
      have h27 : a'.tmps.getD 27 undef = .func (.func gf) #[] lb := h4 5 27 rfl (by decide)
      obtain ⟨v26, hv26⟩ : ∃ v26, a'.tmps.getD 26 undef = v26 := ⟨_, rfl⟩
      rw [hv26] at h26
      refine run_call rfl Tryz.func61 (by kernel_rfl) (by kernel_rfl) #[.slice at1 (N1 - 1) (c1 - 1), v26, .func (.func gf) #[] lb] (by
          simp only [List.map_toArray, List.map_cons, List.map_nil]
          rw [show a'.eval (.tmp 23) = a'.tmps.getD 23 undef from rfl, show a'.eval (.tmp 26) = a'.tmps.getD 26 undef from rfl, show a'.eval (.tmp 27) = a'.tmps.getD 27 undef from rfl, h23, hv26, h27]) ((imagesBy_any _ v26 gf lb r (subL c row) w6 (rowC_below HTL.out (hS0 _ hS)) (inRow_own h26)).mono ?_)
      rintro e w7 ⟨rfl, hx1, hx2, hx3, hb7, hs7⟩
      refine ⟨_, rfl, hK _ _ ?_⟩
      have ha := frame_ov rfl h1 h2 h3 [(22, .slice (some ⟨gr, or', none⟩) N1 c1), (23, .slice at1 (N1 - 1) (c1 - 1)), (24, .slice a2 N2 c2), (25, .slice au N2 cu), (26, v26), (27, .func (.func gf) #[] lb), (28, a'.tmps.getD 28 undef)] (by kernel_rfl) ⟨h4 0 22 rfl (by decide), h4 1 23 rfl (by decide), h4 2 24 rfl (by decide), h4 3 25 rfl (by decide), hv26, h27, rfl, trivial⟩
      dsimp only [ov, List.lookup, Nat.reduceBEq, Nat.reduceAdd] at ha
      show Exit.then _ _ Exit.normal (Act.put a' (some 28) _) _
      rw [ha]
      generalize a'.tmps.getD 28 undef = u28'
      have HB7 := hide (show Below wr.heap.size wr w7 from (HB5.out.trans ((hS0 _ hS).mono HB5.out.size)).trans (hb7.mono (Nat.le_trans HB5.out.size (hS0 _ hS).size)))
      have HA7 := hide (show ∀ k, A' k → k < wr.heap.size from HJA.out _ A' wr HJ'.out)
      have HSZ := hide (show wr.heap.size + 1 ≤ w6.heap.size ∧ w7.heap.size = w6.heap.size + 3 from ⟨by rw [← HS5.out]; exact (hS0 _ hS).size, hs7⟩)
      have HST7 := hide (itStep_trans HSTR.out (itStep_below (A := A') HB7.out))
      have HJ7 := hide (abidF_below (abidF_mono HJ.out (Nat.le_refl _)) HJ'.out HB7.out)
      have HBX := hide (safe_cell (A := A') (below_cell hb7 (Nat.lt_of_lt_of_le (show wr.heap.size < W5.heap.size by have := HS5.out; omega) (hS0 _ hS).size) (below_cell (hS0 _ hS) (show wr.heap.size < W5.heap.size by have := HS5.out; omega) HQC.out)) (fun h => Nat.lt_irrefl _ (HA7.out _ h)))
      have HKID := hide (show Safe A' w7 (ItIn w6.heap.size (w6.heap.size + 1) (w6.heap.size + 2) gf lb p (.slice at1 (N1 - 1) (c1 - 1)) v26 r (subL c row)) from by
        refine safe_and (safe_cell hx1 fun h => ?_) (safe_and (safe_cell hx2 fun h => ?_) (safe_and (safe_cell hx3 fun h => ?_) (safe_and ?_ (safe_and ?_ ?_))))
        · have h5 := HA7.out _ h; have h6 := HSZ.out; simp only at h5; omega
        · have h5 := HA7.out _ h; have h6 := HSZ.out; simp only at h5; omega
        · have h5 := HA7.out _ h; have h6 := HSZ.out; simp only at h5; omega
        · refine safe_imp (safe_step HIN2.out (itStep_trans HSTR.out (itStep_below (A := A') HB7.out))) fun W' hW' => ?_
          have ht := rowC_tail hW'.2.2.2.1
          rw [← HAT.out, ← HN1.out] at ht
          exact ht
        · exact safe_imp (safe_own (own_below h26 hb7) (fun k hk => by have := HA7.out _ hk; have := HS5.out; omega)) fun W' hW' => inRow_own hW'
        · exact safe_imp (safe_step HIN2.out (itStep_trans HSTR.out (itStep_below (A := A') HB7.out))) fun W' hW' => chF_less hW'.2.2.2.2.2 (by simp))
      clear hst hS1 hS0 hS h1 h2 h3 h4 h23 h26 h27 hv26 ha hx1 hx2 hx3 hb7 hs7 hK
      gi_wp2_with fail
      show Code.wpIn _ _ _ _ _ { tmps := #[.func (.yield l) #[] #[], .pointer (some ⟨b1, 0, none⟩), .pointer (some ⟨b3, 0, none⟩), .pointer (some ⟨b2, 0, none⟩), .pointer (some ⟨W.heap.size, 0, none⟩), undef, .pointer (some ⟨wr.heap.size, 0, none⟩), u7, .slice (some ⟨gr, or', none⟩) N1 c1, .int .i64 N1, .bool false, undef, undef, .func (.func gf) #[] lb, .slice (some ⟨gr, or', none⟩) N1 c1, .slice a2 N2 c2, .slice (some ⟨g, 0, none⟩) NL cr, .int .i64 NL, .int .i64 j, .bool true, .pointer (some ⟨g, j, none⟩), .slice au N2 cu, .slice (some ⟨gr, or', none⟩) N1 c1, .slice at1 (N1 - 1) (c1 - 1), .slice a2 N2 c2, .slice au N2 cu, v26, .func (.func gf) #[] lb, .func (.func 67) #[] #[.pointer (some ⟨w6.heap.size, 0, none⟩), .pointer (some ⟨w6.heap.size + 2, 0, none⟩), .pointer (some ⟨w6.heap.size + 1, 0, none⟩)], u29, u30, u31, u32, u33, u34, u35, u36, u37, u38], defers := ks.map markD } _
      refine wp_rangeEach (gf := 67) (lb := #[.pointer (some ⟨w6.heap.size, 0, none⟩), .pointer (some ⟨w6.heap.size + 2, 0, none⟩), .pointer (some ⟨w6.heap.size + 1, 0, none⟩)]) rfl (enters_of Tryz.func67 (by kernel_rfl) rfl)
        (L := imL p r (subL c row)) (Val := ValM) (fun v m lo G W W' h1 _ h3 => valM_agr h1 h3) A' (fun k hk => Nat.lt_of_lt_of_le (HA7.out k hk) HB7.out.size)
        (fun W8 hb8 _ => HIH.out (subL c row) _ _ _ _ _ A' W8 (safe_below HKID.out hb8) (fun k hk => Nat.lt_of_lt_of_le (HA7.out k hk) (Nat.le_trans HB7.out.size hb8.size)) (by rw [subL_len]; exact HC.out) (mid_img (by have := HR5.out; simp at this; omega) (by rw [subL_len]; exact HC.out.2) HIMG.out)) rfl
        (fun pre A1 W8 => J ((LL.take j).flatMap FF ++ pre.map (row :: ·)) A1 W8)
        (fun c pre A1 W8 => c = .ret ∧ Jx ((LL.take j).flatMap FF ++ pre.map (row :: ·)) A1 W8 ∧ (∀ k ∈ ks, W8.heap[k]? = some (.deferred (some [])) ∧ ¬ A1 k)  ∧ W.heap.size ≤ W8.heap.size)
        ?hI ?hIx (fun pre A1 W8 h => HJA.out _ A1 W8 h) (by simpa using HJ7.out)
        (fun x => { tmps := #[.func (.yield l) #[] #[], .pointer (some ⟨b1, 0, none⟩), .pointer (some ⟨b3, 0, none⟩), .pointer (some ⟨b2, 0, none⟩), .pointer (some ⟨W.heap.size, 0, none⟩), undef, .pointer (some ⟨wr.heap.size, 0, none⟩), x, .slice (some ⟨gr, or', none⟩) N1 c1, .int .i64 N1, .bool false, undef, undef, .func (.func gf) #[] lb, .slice (some ⟨gr, or', none⟩) N1 c1, .slice a2 N2 c2, .slice (some ⟨g, 0, none⟩) NL cr, .int .i64 NL, .int .i64 j, .bool true, .pointer (some ⟨g, j, none⟩), .slice au N2 cu, .slice (some ⟨gr, or', none⟩) N1 c1, .slice at1 (N1 - 1) (c1 - 1), .slice a2 N2 c2, .slice au N2 cu, v26, .func (.func gf) #[] lb, .func (.func 67) #[] #[.pointer (some ⟨w6.heap.size, 0, none⟩), .pointer (some ⟨w6.heap.size + 2, 0, none⟩), .pointer (some ⟨w6.heap.size + 1, 0, none⟩)], x, u30, u31, u32, u33, u34, u35, u36, u37, u38], defers := [] }) ?assign ?body ?done ?stop
      case hI => exact fun s A3 W8 W9 h ho ht hp hs hk => HJ.out _ A3 W8 W9 h ho ht hp hs fun k hk1 hk2 => hk k hk1 (hk2.imp (fun h => by have := HST7.out.1.size; have := HS2.out; have := HS1.out; omega) id)
      case hIx =>
        refine fun cc s A3 W8 W9 h ho ht hp hs hk => ⟨h.1, HJX.out _ A3 W8 W9 h.2.1 ho ht hp hs fun k hk1 hk2 => hk k hk1 (hk2.imp (fun h => by have := HST7.out.1.size; have := HS2.out; have := HS1.out; omega) id), fun k hk3 => ?_, Nat.le_trans h.2.2.2 hs⟩
        have h5 := h.2.2.1 k hk3
        have h6 := (Array.getElem?_eq_some_iff.1 h5.1).1
        have h7 := (Array.getElem?_eq_some_iff.1 (HKS.out.2 k hk3).1).1
        exact ⟨by rw [hk k h6 (.inl (Nat.lt_of_lt_of_le h7 HB7.out.size))]; exact h5.1, h5.2⟩
      case assign =>
        intro l2 x m lo G W8 K hv hK
        obtain ⟨ax, nx, cx, rfl⟩ : ∃ a n c, x = .slice a n c := by obtain ⟨vs, ⟨hv, -⟩, -⟩ := hv; obtain ⟨a, c, h⟩ := own_slice hv; exact ⟨a, _, c, h⟩
        clear hv
        gi_wp2
        exact hK
      case body =>
        intro l2 pre A3 m v lo G W8 hi hst hpre hval hlo hlo1 hAlo hG
        obtain ⟨vb, ⟨hv, hvG⟩, hrw, hdj⟩ := id hval
        obtain ⟨ax, cx, rfl⟩ := own_slice hv
        have HI := hide hi; have HST8 := hide hst; have HPRE := hide hpre; have HVAL := hide hval; have HVLO := hide hlo1; have HLO := hide hlo; have HALO := hide hAlo; have HG := hide hG
        have HYF := hide (HYC2.out _ _ (itStep_trans HST7.out hst))
        have HXC := hide (HBX.out _ _ hst)
        clear hi hst hpre hval hlo hlo1 hAlo hG hv hvG hrw hdj
        have HUR8 := hide (show InRow W8 (.slice au N2 cu) row by have h := HRS.out _ _ (itStep_trans HST7.out HST8.out); rw [← HRL.out]; exact inRow_own h)
        have HML := hide (show m.length ≤ 1000 from by
          have hmem : m ∈ allL r (subL c row) := imL_sub _ _ _ (HPRE.out.subset (List.mem_append_right _ (List.mem_singleton_self m)))
          rw [(all_sound r (subL c row) (by have := HR5.out; simp at this; omega) (by rw [subL_len]; exact HC.out) HIMG.out m hmem).1]
          have := HR5.out; simp at this; omega)
        gi_wp2_with fail
        obtain ⟨P6, hP6⟩ : ∃ P6 : FactP, P6 = fun u w9 => (u = .bool true ∧ ∃ A4, J ((LL.take j).flatMap FF ++ (pre ++ [m]).map (row :: ·)) A4 w9 ∧ ItGive A3 A4 G W8 w9) ∨
          (u = .bool false ∧ ∃ A4, Jx ((LL.take j).flatMap FF ++ (pre ++ [m]).map (row :: ·)) A4 w9 ∧ (W8.heap.size ≤ w9.heap.size ∧ (∀ k, W.heap.size ≤ k → k < W8.heap.size → ¬ A3 k → w9.heap[k]? = W8.heap[k]?) ∧ ∀ k, A4 k → A3 k ∨ G k ∨ W8.heap.size ≤ k)) := ⟨_, rfl⟩
        have hst6 : StableP P6 := by
          rw [hP6]
          rintro u w9 w10 hb9 (⟨h1, A4, h2, h3⟩ | ⟨h1, A4, h2, h3, h4, h5⟩)
          · exact .inl ⟨h1, A4, abidF_below (abidF_mono HJ.out (Nat.le_refl _)) h2 hb9, ⟨⟨hb9.os.trans h3.1.os, hb9.tape.trans h3.1.tape, hb9.output.trans h3.1.output, Nat.le_trans h3.1.size hb9.size, fun k hk hn => by rw [hb9.block k (Nat.lt_of_lt_of_le hk h3.1.size)]; exact h3.1.block k hk hn⟩, h3.2⟩⟩
          · exact .inr ⟨h1, A4, abidF_below (abidF_mono HJX.out (Nat.le_refl _)) h2 hb9, Nat.le_trans h3 hb9.size, fun k hk1 hk2 hn => by rw [hb9.block k (Nat.lt_of_lt_of_le hk2 h3)]; exact h4 k hk1 hk2 hn, h5⟩
        obtain ⟨fs, hfs⟩ : ∃ fs : List FactP, fs = [isV (.func (.yield l) #[] #[]), isV (.slice au N2 cu), ownI W8.heap.size row, oneRowE W8.heap.size row, isV (.slice ax m.length cx), valF (row :: m) lo (fun k => G k ∨ W8.heap.size ≤ k), P6] := ⟨_, rfl⟩
        have hst : ∀ f ∈ fs, StableP f := by
          rw [hfs]; intro f hf
          simp only [List.mem_cons, List.not_mem_nil, or_false] at hf
          rcases hf with rfl | rfl | rfl | rfl | rfl | rfl | rfl <;> first | exact stable_v _ | exact stable_ownI _ _ | exact stable_oneRowE _ _ | exact stable_valF _ _ _ | exact hst6
        subst hfs
        have hS1 : ∀ (w2 w3 : World), Below W8.heap.size W8.drew w2 → Below w2.heap.size w2 w3 → Below W8.heap.size W8.drew w3 := fun w2 w3 h k => h.trans (k.mono h.size)
        have hS0 : ∀ w2 : World, Below W8.heap.size W8.drew w2 → Below W8.heap.size W8 w2 := fun w2 h => (below_drew (Below.refl _ W8)).trans h
        refine wpIn_region_pen (S := fun wy => Below W8.heap.size W8.drew wy) 6 [isV (.func (.yield l) #[] #[]), isV (.slice au N2 cu), ownI W8.heap.size row, oneRowE W8.heap.size row, isV (.slice ax m.length cx), valF (row :: m) lo (fun k => G k ∨ W8.heap.size ≤ k), P6] [(4, .pointer (some ⟨W.heap.size, 0, none⟩)), (6, .pointer (some ⟨wr.heap.size, 0, none⟩)), (7, .slice ax m.length cx)] _ _ 7 (by kernel_rfl) (by decide) (by kernel_rfl) rfl rfl (by kernel_rfl) (by kernel_rfl) rfl (by kernel_rfl) ?baseA (Below.refl _ _) ?obA rfl (by intro c hc; cases hc) ?finA
        case baseA =>
          intro t v ht
          simp only [List.lookup_cons, List.lookup_nil] at ht
          repeat' split at ht
          all_goals first | (cases ht; done) | (obtain rfl := Option.some.inj ht; rename_i hh; obtain rfl := eq_of_beq hh; rfl)
        case obA =>
          exact ⟨obi_of (by intro c hc; cases hc) (obp_of (obn_of (by kernel_rfl) (obt_one (.func (.yield l) #[] #[]) rfl rfl (srt_b 4 rfl) (fun ρ w2 hS hx => by have hv := below_cell (hS0 _ hS) (World.block_lt_of_cell? W8 _ HYF.out) HYF.out; go_simp)))),
            obi_of (by intro c hc; cases hc) (obp_of (obn_of (by kernel_rfl) (obt_one (.slice au N2 cu) rfl rfl (srt_b 6 rfl) (fun ρ w2 hS hx => by have hv := below_cell (hS0 _ hS) (World.block_lt_of_cell? W8 _ HXC.out) HXC.out; go_simp)))),
            obi_of (by intro c hc; cases hc) (obp_of (obn_of (by kernel_rfl) (obt_call hst [.slice au N2 cu] rfl Tryz.func69 (by kernel_rfl) (by kernel_rfl) rfl ⟨srt_j 1 rfl (by kernel_rfl) rfl, trivial⟩ (fun wy hS => by
              refine (clone_any _ row wy (inRow_below HUR8.out (hS0 _ hS)) (by have := HRO.out.1; have := HC.out; omega)).mono ?_
              rintro e wz ⟨u, rfl, ho, hb3⟩
              exact ⟨u, rfl, hS1 _ _ hS hb3, hb3, own_base ho hS.size⟩)))),
            obi_of (by intro c hc; cases hc) (fun ac wy hS hB hD K hK => by
              have h32 : ownI W8.heap.size row (ac.tmps.getD 32 undef) wy := hD 2 32 rfl (by kernel_rfl)
              obtain ⟨a9, c9, e9⟩ := own_slice h32
              unfold ownI at h32
              rw [e9] at h32
              have hbz : Below wy.heap.size wy (wy.alloc (.cells #[.slice a9 row.length c9] 23)) := (Below.refl _ wy).alloc (Nat.le_refl _) _
              exact ⟨.inl rfl, run_value _ (exec_build1 (w := wy) rfl (show ac.eval (.tmp 32) = _ from e9)) (hK _ _ (fun _ => hS1 _ _ hS hbz) (fun jj _ u h => stable_all hst jj u _ _ hbz h)
                ⟨wy.heap.size, .slice a9 row.length c9, rfl, hS.size, by simp, World.ownsRow_lit wy #[.slice a9 row.length c9] 1 (Nat.le_refl _) (by decide) rfl, own_below h32 hbz⟩)⟩),
            obi_of (by intro c hc; cases hc) (obp_of (obn_of (by kernel_rfl) (obt_move (.slice ax m.length cx) rfl rfl rfl (srt_b 7 rfl)))),
            obi_of (by intro c hc; cases hc) (fun ac wy hS hB hD K hK => by
              obtain ⟨b2, r0, e33, hb1, hb2, hone, hr0⟩ : oneRowE W8.heap.size row (ac.tmps.getD 33 undef) wy := hD 3 33 rfl (by kernel_rfl)
              have h34 : ac.tmps.getD 34 undef = .slice ax m.length cx := hD 4 34 rfl (by kernel_rfl)
              obtain ⟨v', wz, hr3, hm3, hg3⟩ := exec_consVal (ρ := ac.eval) (o := { dst := some 35, op := .call { callee := .builtin .append, args := #[.tmp 33, .tmp 34], argTypes := #[22, 22] }, type := 22, pos := "l07_class.go:22", after := #[{ on := 3, ground := .data }, { on := 4, ground := .data }, { on := 2, ground := .chain }], guard := none }) (w := wy) (row := row) rfl e33 h34 hone hr0 (valM_below HVAL.out (hS0 _ hS)) (by have := HVLO.out; omega) hb1 (fun k hk => (HG.out k hk).2) HML.out hb2
              refine ⟨.inl rfl, run_value v' hr3 (hK _ _ (fun _ => hS.grown hg3 hS.size (fun k hk => by cases hk; exact hb1)) (fun jj hj => ?_) hm3)⟩
              have hj' := List.all_eq_true.1 (show ((needPL _ 5).all fun j => j == 0) = true by kernel_rfl) jj (needPL_of hj)
              rw [beq_iff_eq] at hj'
              subst hj'
              exact fun u h => h),
            (fun ac wy hS hB hD K hK => by
              have h30 : ac.tmps.getD 30 undef = .func (.yield l) #[] #[] := hD 0 30 rfl (by kernel_rfl)
              have h35 : ValM (ac.tmps.getD 35 undef) (row :: m) lo (fun k => G k ∨ W8.heap.size ≤ k) wy := hD 5 35 rfl (by kernel_rfl)
              have hbw := hS0 _ hS
              refine ⟨.inl rfl, wpIn_yield (l := l) rfl (show ac.eval (.tmp 30) = _ from h30) #[ac.tmps.getD 35 undef] (by simp only [List.map_toArray, List.map_cons, List.map_nil]; rfl) ((HY.out ((LL.take j).flatMap FF ++ pre.map (row :: ·)) A3 (row :: m) (ac.tmps.getD 35 undef) lo (fun k => (G k ∨ W8.heap.size ≤ k) ∧ k < wy.heap.size) wy
                (abidF_below HJ.out HI.out hbw) ?_ ?_ (valM_lt h35) (by have := HLO.out; have := HST7.out.1.size; have := HST2.out.1.size; omega) (Nat.le_trans HVLO.out hbw.size) HALO.out (fun k hk => ⟨?_, hk.2⟩)).mono ?_)⟩
              · have := flat_prefix HTK.out (X := imL p r (subL c row)) (FF := FF) (by rw [HFF.out]) HPRE.out
                rw [List.map_append, ← List.append_assoc] at this
                exact this
              · exact itStep_trans HST2.out (itStep_trans HST7.out (itStep_trans HST8.out (itStep_below hbw)))
              · rcases hk.1 with h | h
                · exact (HG.out k h).1
                · have := HVLO.out; omega
              · rintro e w9 hres
                have hgo : ∀ v, P6 v w9 → ∃ v', Ending.returned v = Ending.returned v' ∧ K (ac.put (some 36) v') w9 := fun v h6 => ⟨v, rfl, hK _ _ (fun hne => absurd rfl hne) (fun jj hj => absurd (needPL_of hj) (by rw [show needPL _ 6 = [] by kernel_rfl]; simp)) h6⟩
                rcases hres with ⟨rfl, A4, hj4, hg4⟩ | ⟨rfl, A4, hj4, hs4, hk4, ha4⟩
                · refine hgo _ ?_
                  rw [hP6]
                  refine .inl ⟨rfl, A4, by rw [List.map_append, ← List.append_assoc]; exact hj4, ⟨⟨hg4.1.os.trans hbw.os, hg4.1.tape.trans hbw.tape, hg4.1.output.trans hbw.output, Nat.le_trans hbw.size hg4.1.size, fun k hk hn => by rw [hg4.1.block k (Nat.lt_of_lt_of_le hk hbw.size) hn]; exact hbw.block k hk⟩, fun k hk => ?_⟩⟩
                  rcases hg4.2 k hk with h | h | h
                  · exact .inl h
                  · exact .inr h.1
                  · exact .inr (.inr (Nat.le_trans hbw.size h))
                · refine hgo _ ?_
                  rw [hP6]
                  refine .inr ⟨rfl, A4, by rw [List.map_append, ← List.append_assoc]; exact hj4, Nat.le_trans hbw.size hs4, fun k hk1 hk2 hn => by rw [hk4 k hk1 (Nat.lt_of_lt_of_le hk2 hbw.size) hn]; exact hbw.block k hk2, fun k hk => ?_⟩
                  rcases ha4 k hk with h | h | h
                  · exact .inl h
                  · exact .inr h.1
                  · exact .inr (.inr (Nat.le_trans hbw.size h))),
            trivial⟩
        case finA =>
          intro a' w9 h1 h2 h3 h4 K hK
          have h6 : P6 (a'.tmps.getD 36 undef) w9 := h4 6 36 rfl (by decide) (by kernel_rfl)
          obtain ⟨bv, hbv, hcase⟩ : ∃ bv, a'.tmps.getD 36 undef = .bool bv ∧ ((bv = true ∧ ∃ A4, J ((LL.take j).flatMap FF ++ (pre ++ [m]).map (row :: ·)) A4 w9 ∧ ItGive A3 A4 G W8 w9) ∨
            (bv = false ∧ ∃ A4, Jx ((LL.take j).flatMap FF ++ (pre ++ [m]).map (row :: ·)) A4 w9 ∧ (W8.heap.size ≤ w9.heap.size ∧ (∀ k, W.heap.size ≤ k → k < W8.heap.size → ¬ A3 k → w9.heap[k]? = W8.heap[k]?) ∧ ∀ k, A4 k → A3 k ∨ G k ∨ W8.heap.size ≤ k))) := by
            rw [hP6] at h6
            rcases h6 with ⟨e1, e2⟩ | ⟨e1, e2⟩
            · exact ⟨true, e1, .inl ⟨rfl, e2⟩⟩
            · exact ⟨false, e1, .inr ⟨rfl, e2⟩⟩
          have hx : a'.eval (.tmp 36) = .bool bv := hbv
          refine run_value (w := w9) (w' := w9) (.bool (!bv)) (by go_simp) (hK _ _ ?_)
          have ha := frame_ov rfl h1 h2 h3 [(30, a'.tmps.getD 30 undef), (31, a'.tmps.getD 31 undef), (32, a'.tmps.getD 32 undef), (33, a'.tmps.getD 33 undef), (34, a'.tmps.getD 34 undef), (35, a'.tmps.getD 35 undef), (36, .bool bv)] (by kernel_rfl) ⟨rfl, rfl, rfl, rfl, rfl, rfl, hbv, trivial⟩
          dsimp only [ov, List.lookup, Nat.reduceBEq, Nat.reduceAdd] at ha
          show Exit.then _ _ Exit.normal (Act.put a' (some 37) _) _
          rw [ha]
          generalize a'.tmps.getD 30 undef = p30
          generalize a'.tmps.getD 31 undef = p31
          generalize a'.tmps.getD 32 undef = p32
          generalize a'.tmps.getD 33 undef = p33
          generalize a'.tmps.getD 34 undef = p34
          generalize a'.tmps.getD 35 undef = p35
          have HCASE := hide hcase
          clear hcase hx hbv ha h1 h2 h3 h4 h6 hP6 hst6 hst hS1 hS0 hK
          cases bv with
          | true =>
            gi_wp2
            rcases HCASE.out with ⟨-, A4, hj4, hg4⟩ | ⟨h, -⟩
            · exact ⟨A4, hj4, hg4⟩
            · cases h
          | false =>
            gi_wp2
            rcases HCASE.out with ⟨h, -⟩ | ⟨-, A4, hj4, hs4, hk4, ha4⟩
            · cases h
            · have hw7 := HB7.out.size
              have hw2 : W.heap.size ≤ W2.heap.size := HST2.out.1.size
              have hwr : W2.heap.size ≤ w7.heap.size := HST7.out.1.size
              have hw8 : w7.heap.size ≤ W8.heap.size := HST8.out.1.size
              refine ⟨A4, ⟨rfl, hj4, fun k hk => ?_, by omega⟩, hs4, fun k hk1 hk2 hn => hk4 k (by omega) hk2 hn, ha4⟩
              have hkw : k < wr.heap.size := (Array.getElem?_eq_some_iff.1 (HKS.out.2 k hk).1).1
              obtain ⟨hk5, hk6, hk7⟩ := HKS.out.2 k hk
              have hn3 : ¬ A3 k := fun h => by
                rcases HST8.out.2 k h with h | h
                · exact hk7 h
                · omega
              refine ⟨by rw [hk4 k (by omega) (by omega) hn3, HST8.out.1.block k (by omega) hk7, HB7.out.block k hkw]; exact hk5, fun h => ?_⟩
              rcases ha4 k h with h | h | h
              · exact hn3 h
              · have := (HG.out k h).1; have := HLO.out; omega
              · omega
      case done =>
        intro A3 W8 hi hst hA3 hmk
        have HI := hide hi; have HST8 := hide hst; have HMK := hide hmk; have HA3 := hide hA3
        clear hi hst hmk hA3
        gi_wp2_with fail
        rw [show (j : Int) + 1 = ((j + 1 : Nat) : Int) by omega]
        have hk7 : ∀ k ∈ ks, k < wr.heap.size ∧ W2.heap.size ≤ k := fun k hk => ⟨(Array.getElem?_eq_some_iff.1 (HKS.out.2 k hk).1).1, (HKS.out.2 k hk).2.1⟩
        have hw7 := HB7.out.size
        refine ⟨⟨_, _, _, _, _, _, _, _, _, _, _, _, _, _, _, _, _, _, _, _, _, _, w7.heap.size :: ks, j + 1, A3, rfl, hlt, ?_, itStep_trans HST7.out HST8.out, List.nodup_cons.2 ⟨fun h => by have := hk7 _ h; omega, HKS.out.1⟩, fun k hk => ?_⟩, ?_⟩
        · rw [HTK.out, List.flatMap_append, List.flatMap_cons, List.flatMap_nil, List.append_nil, HFF.out]
          have := HI.out
          rw [HFF.out] at this
          exact this
        · rcases List.mem_cons.1 hk with rfl | hk
          · refine ⟨HMK.out, HST7.out.1.size, fun h => ?_⟩
            rcases HA3.out _ h with h | h
            · have := HA7.out _ h; omega
            · omega
          · have h1 := hk7 k hk
            have h2 := (HKS.out.2 k hk).2.2
            refine ⟨by rw [HST8.out.1.block k (by omega) h2, HB7.out.block k h1.1]; exact (HKS.out.2 k hk).1, h1.2, fun h => ?_⟩
            rcases HA3.out _ h with h | h
            · exact h2 h
            · omega
        · simp [intOf]; omega
      case stop =>
        rintro cc pre A3 W8 hpre ⟨rfl, hx3, hks3, hw3⟩ hA3 hmk
        have HX3 := hide hx3; have HKS3 := hide hks3; have HW3 := hide hw3; have HA3 := hide hA3; have HMK := hide hmk; have HPRE := hide hpre
        clear hx3 hks3 hw3 hA3 hmk hpre
        gi_wp2_with fail
        have hk7 : ∀ k ∈ ks, k < wr.heap.size ∧ W2.heap.size ≤ k := fun k hk => ⟨(Array.getElem?_eq_some_iff.1 (HKS.out.2 k hk).1).1, (HKS.out.2 k hk).2.1⟩
        have hw7 := HB7.out.size
        have hw2 : W.heap.size ≤ W2.heap.size := HST2.out.1.size
        have hwr : W2.heap.size ≤ w7.heap.size := HST7.out.1.size
        show LeavesInM _ _ _ _ _ _ ((w7.heap.size :: ks).map markD) _ _
        refine leaves_marks (Jx ((LL.take j).flatMap FF ++ pre.map (row :: ·)) A3) (fun W9 h9 => ?_) (w7.heap.size :: ks) W8 (fun k hk W9 h9 h10 => abidF_put HJX.out _ h9 ?_ ?_) (List.nodup_cons.2 ⟨fun h => by have := hk7 _ h; omega, HKS.out.1⟩) (fun k hk => ?_) HX3.out
        · exact ⟨_, results_none rfl _ _ _, ⟨_, rfl⟩, A3, .inr ⟨_, flat_prefix HTK.out (by rw [HFF.out]) HPRE.out, h9⟩⟩
        · rcases List.mem_cons.1 hk with rfl | hk
          · omega
          · have := hk7 k hk; omega
        · rcases List.mem_cons.1 hk with rfl | hk
          · intro h
            rcases HA3.out _ h with h | h
            · have := HA7.out _ h; omega
            · omega
          · exact (HKS3.out k hk).2
        · rcases List.mem_cons.1 hk with rfl | hk
          · exact HMK.out
          · exact (HKS3.out k hk).1
  · obtain rfl : j = NL := by omega
    have HE := hide (show LL.take j = LL from List.take_of_length_le (by rw [HNL.out]; exact Nat.le_refl _))
    gi_wp2_with fail
    have hw2 : W.heap.size ≤ W2.heap.size := HST2.out.1.size
    rw [HE.out] at HJ'
    refine leaves_marks (fun W9 => J (LL.flatMap FF) A' W9 ∧ ItStep A A' W W9) (fun W9 h9 => ⟨_, results_none rfl _ _ _, ⟨_, rfl⟩, A', .inl h9⟩) ks wr (fun k hk W9 h9 h10 => ⟨abidF_put HJ.out _ h9.1 ?_ (HKS.out.2 k hk).2.2, itStep_put h9.2 ?_ _⟩) HKS.out.1 (fun k hk => (HKS.out.2 k hk).1) ⟨HJ'.out, itStep_trans HST2.out HSTR.out⟩
    · have := (HKS.out.2 k hk).2.1; omega
    · have := (HKS.out.2 k hk).2.1; omega
theorem iter_any (gf : Nat) (eg : ∀ args w, (callFunc gf args).run Tryz.prog w = .ok (.enter gf args) w) (lb : Array Value) (p : List Int → List Int → Bool) : ∀ (r c : List Int) (b1 b2 b3 : Nat) (vr vc : Value) (A : Nat → Prop) (W : World), Safe A W (ItIn b1 b2 b3 gf lb p vr vc r c) → (∀ k, A k → k < W.heap.size) → r.length ≤ 5 → 1 ≤ c.length ∧ c.length ≤ 5 → Mid1000 c →
    EachC Tryz.prog 67 #[.pointer (some ⟨b1, 0, none⟩), .pointer (some ⟨b3, 0, none⟩), .pointer (some ⟨b2, 0, none⟩)] (imL p r c) ValM W A
  | [], c, b1, b2, b3, vr, vc, A, W, h1, h2, _, _, _ => iter_nil c b1 b2 b3 gf lb p vr vc A W h1 h2
  | a :: r, c, b1, b2, b3, vr, vc, A, W, h1, h2, h3, h4, h5 => iter_cons gf eg lb p a r (fun c b1 b2 b3 vr vc A W g1 g2 g3 g4 => iter_any gf eg lb p r c b1 b2 b3 vr vc A W g1 g2 (by simp at h3; omega) g3 g4) c b1 b2 b3 vr vc A W h1 h2 h3 h4 h5
end Go.Proofs.YtjnnoabaepmcnaaGreat
/-
  The iterator over all images, at the rows that may stand first; a count of what an iterator hands on.
-/
namespace Go.Proofs.YtjnnoabaepmcnaaGreat
open Go.RowKit Go.Shelf
attribute [local go_sem] Oper.semAt_some

theorem firstRows_any (vr vc : Value) (a : Int) (r c : List Int) (w : World) (hr : InRow w vr (a :: r)) (hc : InRow w vc c) (hr5 : (a :: r).length ≤ 5) (hC1 : 1 ≤ c.length) (hM : Mid1000 c) :
    Calls Tryz.prog 62 #[vr, vc] w (RowsRes w.heap.size (firstRows a r c) w) := by
  have HR := hide (rowsAt_any vr vc (a :: r) c 0 w hr hc (by simp) hr5 hC1 hM)
  rw [rowsAt_zero] at HR
  obtain ⟨a1, c1, rfl, -, -⟩ := hr
  obtain ⟨a2, c2, rfl, -, -⟩ := hc
  generalize (a :: r).length = n1 at *
  obtain ⟨n2, hn2⟩ : ∃ n2, n2 = c.length := ⟨_, rfl⟩
  rw [← hn2] at HR hC1 ⊢
  obtain ⟨L, hL⟩ : ∃ L, L = firstRows a r c := ⟨_, rfl⟩
  rw [← hL] at HR ⊢
  clear hn2 hL hr5 hM
  go_enter Tryz.func62, Tryz.ntmps62
  go_wp2_with fail
  refine HR.out.mono ?_
  rintro e w1 ⟨u, rfl, hm, hb⟩
  have HM1 := hide (And.intro hm hb)
  obtain ⟨vs, hv, -⟩ := hm
  obtain ⟨au, cu, rfl⟩ := own_slice hv
  clear hv hb
  go_wp2
  go_ret
  exact ⟨_, rfl, HM1.out.1, HM1.out.2⟩
theorem chF_first (n : Nat) (W : World) : ChF 62 #[] (fun _ _ => true) n W := by
  intro vr vc a r c W' _ h1 h2 _ h4 h5 h6
  rw [List.filter_eq_self.2 (fun _ _ => rfl)]
  exact firstRows_any vr vc a r c W' h1 h2 h4 h5 h6
set_option maxRecDepth 100000 in
theorem imagesWith_any (vr vc : Value) (r c : List Int) (w : World) (hr : RowC w vr r) (hc : InRow w vc c) :
    Calls Tryz.prog 45 #[vr, vc] w fun e w' => e = .returned (.func (.func 67) #[] #[.pointer (some ⟨w.heap.size, 0, none⟩), .pointer (some ⟨w.heap.size + 2, 0, none⟩), .pointer (some ⟨w.heap.size + 1, 0, none⟩)]) ∧
      w'.cell? ⟨w.heap.size, 0, none⟩ = some vr ∧ w'.cell? ⟨w.heap.size + 1, 0, none⟩ = some vc ∧ w'.cell? ⟨w.heap.size + 2, 0, none⟩ = some (.func (.func 62) #[] #[]) ∧ Below w.heap.size w w' ∧ w'.heap.size = w.heap.size + 3 := by
  have HB := hide (imagesBy_any vr vc 62 #[] r c w hr hc)
  obtain ⟨-, a1, c1, rfl, -, -⟩ := hr
  obtain ⟨a2, c2, rfl, -, -⟩ := hc
  generalize r.length = n1 at *
  generalize c.length = n2 at *
  go_enter Tryz.func45, Tryz.ntmps45
  go_wp2_with fail
  refine HB.out.mono ?_
  rintro e w1 ⟨rfl, h⟩
  have H := hide h
  clear h
  go_wp2
  go_ret
  exact ⟨rfl, H.out⟩

theorem below_itStep {w W W' : World} {A A' : Nat → Prop} (hb : Below w.heap.size w W) (hA : ∀ k, A k → w.heap.size ≤ k) (h : ItStep A A' W W') : Below w.heap.size w W' :=
  ⟨h.1.os.trans hb.os, h.1.tape.trans hb.tape, h.1.output.trans hb.output, Nat.le_trans hb.size h.1.size, fun k hk => by rw [h.1.block k (Nat.lt_of_lt_of_le hk hb.size) (fun ha => by have := hA k ha; omega)]; exact hb.block k hk⟩
theorem below_putObj {B : Nat} {w W : World} {k : Nat} (h : Below B w W) (hk : B ≤ k) (o : Obj) : Below B w (W.putObj k o) :=
  ⟨h.os, h.tape, h.output, by simpa using h.size, fun i hi => by rw [World.putObj_heap_other (by omega)]; exact h.block i hi⟩
theorem ownMat_putObj {W : World} {lo hi k : Nat} {v : Value} {m : List (List Int)} {o : Obj} (o' : Obj) (h : OwnMat W lo hi v m) (hk : W.heap[k]? = some o) (ho : o.isCells = false) : OwnMat (W.putObj k o') lo hi v m := by
  obtain ⟨vs, g1, g2, g3, g4⟩ := h
  exact ⟨vs, ownsRow_putObj g1 _ hk ho, g2, fun j hj => ⟨ownsRow_putObj (g3 j hj).1 _ hk ho, (g3 j hj).2⟩, g4⟩
theorem mid_sums {r c : List Int} (hs : sumsOk r c = true) : Mid1000 c := by
  obtain ⟨hr5, hc5, -, hcb, -⟩ := sumsOk_yes hs
  refine ⟨hc5.2, fun x hx => ?_⟩
  have := noBad_at hcb hx
  rw [List.getD_eq_getElem?_getD, List.getElem?_eq_getElem hx, Option.getD_some]
  omega
theorem iter_start {r c : List Int} {va vb : Value} {w W : World} {b1 b2 b3 : Nat} {A : Nat → Prop} (ha : RowC w va r) (hb : InRow w vb c) (hs : sumsOk r c = true) (hW : Below w.heap.size w W) (hA : ∀ k, A k → w.heap.size ≤ k ∧ k < W.heap.size)
    (h1 : W.cell? ⟨b1, 0, none⟩ = some va) (h2 : W.cell? ⟨b2, 0, none⟩ = some vb) (h3 : W.cell? ⟨b3, 0, none⟩ = some (.func (.func 62) #[] #[])) (hb1 : ¬ A b1) (hb2 : ¬ A b2) (hb3 : ¬ A b3) :
    EachC Tryz.prog 67 #[.pointer (some ⟨b1, 0, none⟩), .pointer (some ⟨b3, 0, none⟩), .pointer (some ⟨b2, 0, none⟩)] (allL r c) ValM W A := by
  obtain ⟨hr5, hc5, -⟩ := sumsOk_yes hs
  rw [← imL_all]
  exact iter_any 62 (enters_of Tryz.func62 (by kernel_rfl) rfl) #[] _ r c b1 b2 b3 va vb A W (safe_and (safe_cell h1 hb1) (safe_and (safe_cell h2 hb2) (safe_and (safe_cell h3 hb3) (safe_and (fun A' W' h => rowC_below ha (below_itStep hW (fun k hk => (hA k hk).1) h)) (safe_and (fun A' W' h => inRow_below hb (below_itStep hW (fun k hk => (hA k hk).1) h)) (fun A' W' _ => chF_first _ _)))))) (fun k hk => (hA k hk).2) hr5.2 hc5 (mid_sums hs)

end Go.Proofs.YtjnnoabaepmcnaaGreat
/-
  The exact laws on RowSums and ColSums, walked.
-/
namespace Go.Proofs.YtjnnoabaepmcnaaGreat
open Go.RowKit
set_option linter.unusedVariables false

end Go.Proofs.YtjnnoabaepmcnaaGreat
