/-
  Texts of this claim, one behind the other: AllS, PlaceI, LeastS, AllQ, MskP.
-/
import Derived.Test.YtcliiefedmiokaaGreatPackL
import Derived.Test.YtcliiefedmiokaaGreatPackD
/-
  l05All of the model: all images with given sums, one behind the other.
-/
namespace Go.Proofs.YtcliiefedmiokaaGreat
open Go.RowKit

theorem ownM2_matT {w : World} {lo : Nat} {v : Value} {m : List (List Int)} (h : OwnM2 w lo v m) : MatT w lo v m := by
  obtain ⟨hi, -, h⟩ := h
  exact matT_own h
/-- A list of integers that came in, or that some call has made. -/
def Keep (w0 w : World) (v : Value) (c : List Int) : Prop := InRow w0 v c ∨ ∃ B, w.ownsRow B 3 1 v c.length (ints c)
theorem keep_row {w0 w : World} {v : Value} {c : List Int} (h : Keep w0 w v c) (hb : Below w0.heap.size w0 w) : InRow w v c := by
  rcases h with h | ⟨B, h⟩
  · exact inRow_below h hb
  · exact inRow_own h
theorem keep_below {w0 w w' : World} {v : Value} {c : List Int} (h : Keep w0 w v c) (hb : Below w.heap.size w w') : Keep w0 w' v c := by
  rcases h with h | ⟨B, h⟩
  · exact .inl h
  · exact .inr ⟨B, own_below h hb⟩
theorem keep_kept {w0 w w' : World} {v u : Value} {c : List Int} {B e n : Nat} {xs : List Value} (h : Keep w0 w v c) (hu : w.ownsRow B e 1 u n xs) (hg : w.grownBy w' u.ownBlock) (hne : 3 ≠ e) : Keep w0 w' v c := by
  rcases h with h | ⟨B', h⟩
  · exact .inl h
  · exact .inr ⟨B', h.kept hg (own_types h hu hne)⟩

/-- What l05All answers. -/
def AllRes (lo : Nat) (vout : Value) (ms : List (List (List Int))) (w : World) (e : Ending) (w' : World) : Prop :=
  ∃ u, e = .returned u ∧ OwnImgs w' lo u ms ∧ w.grownBy w' vout.ownBlock ∧ (u.ownBlock = vout.ownBlock ∨ ∀ q, u.ownBlock = some q → w.heap.size ≤ q)

theorem rowsL_ten (n : Nat) (s : Int) (hn : n ≤ 5) : (rowsLn n s).length ≤ 10 := by
  by_cases hs : 0 ≤ s ∧ s ≤ 5
  · obtain ⟨k, rfl⟩ : ∃ k : Nat, s = k := ⟨s.toNat, by omega⟩
    have key : ∀ n : Nat, n ≤ 5 → ∀ k : Nat, k ≤ 5 → (rowsLn n (k : Int)).length ≤ 10 := by decide +kernel
    exact key n hn k (by omega)
  · rw [show rowsLn n s = [] from ?_]
    · simp
    · rw [List.eq_nil_iff_forall_not_mem]
      intro row hr
      obtain ⟨g1, g2, g3⟩ := (mem_rowsL _ _ _).1 hr
      have h0 := sum_nonneg01 row g2
      have h5 : ∀ l : List Int, (∀ x ∈ l, x = 0 ∨ x = 1) → l.sum ≤ l.length := fun l => by
        induction l with
        | nil => intro _; exact Int.le_refl _
        | cons x l ih =>
          intro h
          have := ih fun y hy => h y (List.mem_cons_of_mem _ hy)
          have := h x List.mem_cons_self
          rw [List.sum_cons, List.length_cons]; omega
      have := h5 row g2
      omega
/-- The images that begin with one of the rows. -/
def fromRows (r c : List Int) (l : List (List Int)) : List (List (List Int)) := l.flatMap fun row => if restB r (subL c row) then (allL r (subL c row)).map (row :: ·) else []
theorem fromRows_all (a : Int) (r c : List Int) : fromRows r c (rowsLn c.length a) = allL (a :: r) c := rfl
theorem fromRows_snoc (r c : List Int) (l : List (List Int)) (row : List Int) : fromRows r c (l ++ [row]) = fromRows r c l ++ if restB r (subL c row) then (allL r (subL c row)).map (row :: ·) else [] := by
  unfold fromRows
  rw [List.flatMap_append]; simp
theorem allL_len : ∀ (r c : List Int), c.length ≤ 5 → (allL r c).length ≤ 10 ^ r.length
  | [], c, _ => by simp [allL]
  | a :: r, c, hc => by
    rw [← fromRows_all]
    have h : ∀ l : List (List Int), (fromRows r c l).length ≤ l.length * 10 ^ r.length := fun l => by
      induction l with
      | nil => simp [fromRows]
      | cons x l ih =>
        unfold fromRows at ih ⊢
        rw [List.flatMap_cons, List.length_append, List.length_cons, Nat.add_mul, Nat.one_mul]
        have : (if restB r (subL c x) then (allL r (subL c x)).map (x :: ·) else []).length ≤ 10 ^ r.length := by
          split
          · rw [List.length_map]; exact allL_len r _ (by rw [subL_len]; exact hc)
          · simp
        omega
    refine Nat.le_trans (h _) ?_
    rw [List.length_cons, Nat.pow_succ, Nat.mul_comm]
    exact Nat.mul_le_mul_left _ (rowsL_ten _ _ hc)
theorem fromRows_len (r c : List Int) (hc : c.length ≤ 5) (l : List (List Int)) : (fromRows r c l).length ≤ l.length * 10 ^ r.length := by
  induction l with
  | nil => simp [fromRows]
  | cons x l ih =>
    unfold fromRows at ih ⊢
    rw [List.flatMap_cons, List.length_append, List.length_cons, Nat.add_mul, Nat.one_mul]
    have : (if restB r (subL c x) then (allL r (subL c x)).map (x :: ·) else []).length ≤ 10 ^ r.length := by
      split
      · rw [List.length_map]; exact allL_len r _ (by rw [subL_len]; exact hc)
      · simp
    omega
theorem leftOk_small {c row : List Int} (hc : ∀ x, x < c.length → 0 ≤ c.getD x 0 ∧ c.getD x 0 ≤ 5) (hl : c.length ≤ 5) (hr : ∀ x, x < c.length → row.getD x 0 = 0 ∨ row.getD x 0 = 1) (h : leftOk c row = true) : SmallL (subL c row) := by
  refine ⟨by rw [subL_len]; exact hl, fun i hi => ?_⟩
  have hi' : i < c.length := by rw [subL_len] at hi; exact hi
  have h1 := leftOk_iff.1 h i hi'
  have h2 := hc i hi'; have h3 := hr i hi'
  have e : (subL c row)[i] = c.getD i 0 - row.getD i 0 := tabL_at _
  rw [e]; omega
theorem rest_not {r c row : List Int} (h : leftOk c row = false) : restB r (subL c row) = false := by
  unfold leftOk at h
  rw [List.all_eq_false] at h
  obtain ⟨x, hx, h1⟩ := h
  have hx' : x < c.length := by simpa using hx
  have hneg : (subL c row).getD x 0 < 0 := by rw [subL_getD hx']; simp at h1; simp only [List.getD_eq_getElem?_getD]; omega
  have hlt : x < (subL c row).length := by rw [subL_len]; exact hx'
  have hmem : (subL c row).getD x 0 ∈ subL c row := by rw [List.getD_eq_getElem?_getD, List.getElem?_eq_getElem hlt]; exact List.getElem_mem hlt
  unfold restB
  split
  · rw [Bool.not_eq_false', List.any_eq_true]
    exact ⟨_, hmem, by unfold badB; rw [decide_eq_true hneg]; rfl⟩
  · cases he : existsOf r (subL c row) with
    | false => rfl
    | true =>
      exfalso
      obtain ⟨-, -, -, hcb, -⟩ := sumsOk_yes (existsOf_sums he)
      rw [List.any_eq_false] at hcb
      exact hcb _ hmem (by unfold badB; rw [decide_eq_true hneg]; rfl)
theorem sum_zero : ∀ (l : List Int), (∀ x ∈ l, 0 ≤ x) → ((l.sum = 0) ↔ ∀ x ∈ l, x = 0)
  | [], _ => by simp
  | x :: l, h => by
    have h1 := sum_zero l fun y hy => h y (List.mem_cons_of_mem _ hy)
    have h2 := h x List.mem_cons_self
    have h3 : 0 ≤ l.sum := by
      clear h1 h2
      induction l with
      | nil => exact Int.le_refl _
      | cons y l ih =>
        rw [List.sum_cons]
        have := h y (by simp)
        have := ih fun z hz => h z (by rcases List.mem_cons.1 hz with rfl | hz <;> simp [*])
        omega
    rw [List.sum_cons]
    constructor
    · intro h4 y hy
      rcases List.mem_cons.1 hy with rfl | hy
      · omega
      · exact h1.1 (by omega) y hy
    · intro h4
      have h5 := h4 x List.mem_cons_self
      have h6 := h1.2 fun y hy => h4 y (List.mem_cons_of_mem _ hy)
      omega
theorem rest_nil {l : List Int} (h : SmallL l) : restB [] l = (l.sum == 0) := by
  unfold restB
  rw [if_pos rfl, Bool.eq_iff_iff, beq_iff_eq, sum_zero l (fun x hx => by obtain ⟨i, hi, rfl⟩ := List.getElem_of_mem hx; exact (h.2 i hi).1), Bool.not_eq_true', List.any_eq_false]
  constructor
  · intro h1 x hx
    have := h1 x hx
    simp only [badB, Bool.or_eq_true, decide_eq_true_eq, not_or] at this
    omega
  · intro h1 x hx
    rw [h1 x hx]; decide
theorem rest_cons {b : Int} {r l : List Int} : restB (b :: r) l = existsOf (b :: r) l := by unfold restB; rw [if_neg (by simp)]

theorem fromRows_no {r c row : List Int} {L : List (List Int)} {j : Nat} (h : L.take (j + 1) = L.take j ++ [row]) (hr : restB r (subL c row) = false) : fromRows r c (L.take (j + 1)) = fromRows r c (L.take j) := by
  rw [h, fromRows_snoc, hr]; simp
theorem fromRows_yes {r c row : List Int} {L : List (List Int)} {j : Nat} (d : List (List Int)) (ms : List (List (List Int))) (h : L.take (j + 1) = L.take j ++ [row]) (hr : restB r (subL c row) = true) :
    ms ++ (fromRows r c (L.take (j + 1))).map (d ++ ·) = (ms ++ (fromRows r c (L.take j)).map (d ++ ·)) ++ (allL r (subL c row)).map ((d ++ [row]) ++ ·) := by
  rw [h, fromRows_snoc, hr, if_pos rfl, List.map_append, List.map_map, List.append_assoc]
  congr 3
  funext m
  simp
theorem below_grown0 {w0 w w' : World} {lo : Nat} {v : Value} {e n : Nat} {xs : List Value} (hb : Below w0.heap.size w0 w) (hv : w.ownsRow lo e 1 v n xs) (hg : w.grownBy w' v.ownBlock) (h0 : w0.heap.size ≤ lo) : Below w0.heap.size w0 w' :=
  hb.grown hg hb.size fun k hk => Nat.le_trans h0 (hv.lt k hk).1
/-- 'append(m, row)' at rows that the call has made. -/
theorem exec_snocMat {ρ : Operand → Value} {o : Oper} {w : World} {x y : Operand} {b lo hi B0 : Nat} {v urow : Value} {row : List Int} {m : List (List Int)}
    (ho : o.op = .call { callee := .builtin .append, args := #[x, y], argTypes := #[22, 22] }) (hx : ρ x = v) (hy : ρ y = .slice (some ⟨b, 0, none⟩) 1 1)
    (hm : OwnMat w lo hi v m) (hown : w.ownsRow b 30 1 (.slice (some ⟨b, 0, none⟩) 1 1) 1 [urow]) (hrow : w.ownsRow B0 3 1 urow row.length (ints row)) (hB : B0 ≤ lo) (hlo : lo ≤ w.heap.size) (h5 : m.length ≤ 1000) :
    ∃ v' w', (execOp ρ o).run Tryz.prog w = .ok (.value v') w' ∧ MatT w' B0 v' (m ++ [row]) ∧ w.grownBy w' v.ownBlock := by
  obtain ⟨vs, hv, hvh, hvr, hva⟩ := hm
  have hvl : vs.length = m.length := by have := hv.1; omega
  obtain ⟨i0, hi0', hz0, hz1, hz2⟩ := info_parts Tryz.infoInts
  obtain ⟨v', w', hr, g1, g2, -⟩ := run_append_own (P := Tryz.prog) w lo 22 o.type 30 i0 (.slice none 0 0) 1 24 Tryz.underlying22 hi0' hz0 hz1 hz2 rfl (by decide) v m.length vs hv ⟨b, 0, none⟩ 1 1 [urow] (by simp) (fun j u hj => by
      rw [addr_add, Nat.zero_add]
      have hj' : j < 1 := by have := (List.getElem?_eq_some_iff.1 hj).1; simpa using this
      rw [hown.cellAt j (by omega), hj]) (fun u hu => by
      obtain rfl : u = urow := by simpa using hu
      obtain ⟨a, c, e⟩ := own_slice hrow
      rw [e]; rfl) (by unfold maxLen; omega) (by omega) hlo
  refine ⟨v', w', ?_, ⟨vs ++ [urow], ?_, fun i h => ?_⟩, g2⟩
  · unfold execOp
    simp only [ho, resolve, invoke, builtin, Sem.run_bind, Sem.run_pure, Result.andThen_ok, List.map_toArray, List.map_cons, List.map_nil, hx, hy, hr]
  · have := own_base (base' := B0) g1 hB
    rw [List.length_append]; exact this
  · by_cases e : i < m.length
    · have e1 : (vs ++ [urow]).getD i undef = vs.getD i undef := by simp [List.getD_eq_getElem?_getD, List.getElem?_append_left (show i < vs.length by omega)]
      rw [e1, List.getElem_append_left e]
      have h0 := (hvr i e).1
      exact own_base (h0.kept g2 (own_types h0 hv (by decide))) hB
    · obtain rfl : i = m.length := by simp at h; omega
      have e1 : (vs ++ [urow]).getD m.length undef = urow := by rw [← hvl]; simp [List.getD_eq_getElem?_getD]
      rw [e1, show (m ++ [row])[m.length] = row by simp]
      exact hrow.kept g2 (own_types hrow hv (by decide))
/-- What the call for the rows that are left answers. -/
def resF (W : World) (lo : Nat) (v : Value) (ms : List (List (List Int))) : FactP := fun u w' => OwnImgs w' lo u ms ∧ W.grownBy w' v.ownBlock ∧ (u.ownBlock = v.ownBlock ∨ ∀ q, u.ownBlock = some q → W.heap.size ≤ q)
theorem stable_resF (W : World) (lo : Nat) (v : Value) (ms : List (List (List Int))) : StableP (resF W lo v ms) := fun _ _ _ hb h => ⟨ownImgs_below h.1 hb, grown_trans h.2.1 (grown_of_below hb _), h.2.2⟩
end Go.Proofs.YtcliiefedmiokaaGreat
/-
  CanPlace of the program.
-/
namespace Go.Proofs.YtcliiefedmiokaaGreat
open Go.RowKit Go.Shelf Mx

set_option maxHeartbeats 400000 in
theorem placePred_any (u : Value) (row : List Int) (x : Nat) (v : Int) (qx qv : Nat) (w : World) (hvx : w.cell? ⟨qx, 0, none⟩ = some (.int .i64 x)) (hvv : w.cell? ⟨qv, 0, none⟩ = some (.int .i64 v)) (hU : InRow w u row) (hx : x < row.length) :
    Calls Tryz.prog 58 #[u, .pointer (some ⟨qx, 0, none⟩), .pointer (some ⟨qv, 0, none⟩)] w fun e w' => e = .returned (.bool (row.getD x 0 == v)) ∧ Below w.heap.size w w' := by
  have mixed : Tryz.prog.follows .mixedOrders = true := by kernel_rfl
  obtain ⟨a, c, rfl, hm, hp⟩ := hU
  obtain ⟨g, o, rfl, hg, hc⟩ := hp.resolve_left (by omega)
  have hcx := hc x hx
  have e1 : row.getD x 0 = row[x] := by rw [List.getD_eq_getElem?_getD, List.getElem?_eq_getElem hx]; rfl
  rw [e1]
  obtain ⟨z, hz⟩ : ∃ z, z = row[x] := ⟨_, rfl⟩
  rw [← hz] at hcx ⊢
  obtain ⟨n, hn⟩ : ∃ n, n = row.length := ⟨_, rfl⟩
  rw [← hn] at hx hm ⊢
  have hxI : (x : Int) < n := by omega
  clear hc hp e1 hz hn
  go_enter Tryz.func58, Tryz.ntmps58
  go_wp2
  go_quiet (fail)
  go_wp2
  go_ret
  exact ⟨rfl, below_draws (Below.refl _ _) _⟩
theorem place_out {r c : List Int} {y x v : Int} (h : ¬ (0 ≤ y ∧ y < r.length ∧ 0 ≤ x ∧ x < c.length)) : placeOf r c y x v = false := by
  unfold placeOf
  rw [decide_eq_false h]; simp
theorem place_no {r c : List Int} {y x v : Int} (h : existsOf r c = false) : placeOf r c y x v = false := by unfold placeOf; rw [h]; rfl
theorem place_in {r c : List Int} {y x : Nat} {v : Int} (h : existsOf r c = true) (hy : y < r.length) (hx : x < c.length) : placeOf r c y x v = (rowsAtL r c y).any fun row => row.getD x 0 == v := by
  unfold placeOf
  rw [h, decide_eq_true (by omega)]; simp
set_option maxHeartbeats 400000 in
theorem implPlace_no (va vb : Value) (r c : List Int) (y x v : Int) (w : World) (ha : InRow w va r) (hb : InRow w vb c) (h : existsOf r c = false) :
    Calls Tryz.prog 20 #[va, vb, .int .i64 y, .int .i64 x, .int .i64 v] w fun e w' => e = .returned (.bool (placeOf r c y x v)) ∧ Below w.heap.size w w' := by
  rw [place_no h]
  have HBX := hide (((Below.refl w.heap.size w).alloc (Nat.le_refl _) (.cells #[.int .i64 x] 3)).alloc (by simp) (.cells #[.int .i64 v] 3))
  have HE := hide (implExists_any va vb r c _ (inRow_below ha HBX.out) (inRow_below hb HBX.out))
  rw [h] at HE
  clear ha hb h
  go_enter Tryz.func20, Tryz.ntmps20
  go_wp2_with (go_at_call 46; refine HE.out.mono ?_; rintro e w1 ⟨rfl, b1⟩; have B1 := hide b1; clear b1)
  go_ret
  exact ⟨rfl, HBX.out.trans (B1.out.mono HBX.out.size)⟩
set_option maxHeartbeats 1000000 in
theorem implPlace_out (va vb : Value) (r c : List Int) (y x v : Int) (w : World) (ha : InRow w va r) (hb : InRow w vb c) (h : existsOf r c = true) (ho : ¬ (0 ≤ y ∧ y < r.length ∧ 0 ≤ x ∧ x < c.length)) :
    Calls Tryz.prog 20 #[va, vb, .int .i64 y, .int .i64 x, .int .i64 v] w fun e w' => e = .returned (.bool (placeOf r c y x v)) ∧ Below w.heap.size w w' := by
  rw [place_out ho]
  have HBX := hide (((Below.refl w.heap.size w).alloc (Nat.le_refl _) (.cells #[.int .i64 x] 3)).alloc (by simp) (.cells #[.int .i64 v] 3))
  have HX := hide (show ((w.alloc (.cells #[.int .i64 x] 3)).alloc (.cells #[.int .i64 v] 3)).cell? ⟨w.heap.size, 0, none⟩ = some (.int .i64 x) from below_cell ((Below.refl _ _).alloc (Nat.le_refl _) _) (by simp) (by simp [World.cell?_alloc_new]))
  have HS := hide (show w.heap.size < ((w.alloc (.cells #[.int .i64 x] 3)).alloc (.cells #[.int .i64 v] 3)).heap.size by simp; omega)
  have HE := hide (implExists_any va vb r c _ (inRow_below ha HBX.out) (inRow_below hb HBX.out))
  rw [h] at HE
  obtain ⟨xa, ca, rfl, hma, -⟩ := ha
  obtain ⟨xb, cb, rfl, hmb, -⟩ := hb
  unfold maxLen at hma hmb
  obtain ⟨R, hR⟩ : ∃ R, R = r.length := ⟨_, rfl⟩
  obtain ⟨C, hC⟩ : ∃ C, C = c.length := ⟨_, rfl⟩
  rw [← hR] at ho hma HE ⊢
  rw [← hC] at ho hmb HE ⊢
  clear h hR hC
  have hcases : y < 0 ∨ (0 ≤ y ∧ (R : Int) ≤ y) ∨ (0 ≤ y ∧ y < R ∧ x < 0) ∨ (0 ≤ y ∧ y < R ∧ 0 ≤ x ∧ (C : Int) ≤ x) := by omega
  clear ho
  rcases hcases with h1 | ⟨h1, h2⟩ | ⟨h1, h2, h3⟩ | ⟨h1, h2, h3, h4⟩
  all_goals
    go_enter Tryz.func20, Tryz.ntmps20
    go_wp2_with (go_at_call 46; refine HE.out.mono ?_; rintro e w1 ⟨rfl, b1⟩; have B1 := hide b1; have hx1 := below_cell b1 HS.out HX.out; clear b1)
    go_ret
    exact ⟨rfl, HBX.out.trans (B1.out.mono HBX.out.size)⟩
set_option maxHeartbeats 1000000 in
theorem implPlace_in (va vb : Value) (r c : List Int) (y x : Nat) (v : Int) (w : World) (ha : InRow w va r) (hb : InRow w vb c) (h : existsOf r c = true) (hy : y < r.length) (hx : x < c.length) :
    Calls Tryz.prog 20 #[va, vb, .int .i64 y, .int .i64 x, .int .i64 v] w fun e w' => e = .returned (.bool (placeOf r c y x v)) ∧ Below w.heap.size w w' := by
  rw [place_in h hy hx]
  have HBX := hide (((Below.refl w.heap.size w).alloc (Nat.le_refl _) (.cells #[.int .i64 x] 3)).alloc (by simp) (.cells #[.int .i64 v] 3))
  have HX := hide (show ((w.alloc (.cells #[.int .i64 x] 3)).alloc (.cells #[.int .i64 v] 3)).cell? ⟨w.heap.size, 0, none⟩ = some (.int .i64 x) from below_cell ((Below.refl _ _).alloc (Nat.le_refl _) _) (by simp) (by simp [World.cell?_alloc_new]))
  have HV := hide (show ((w.alloc (.cells #[.int .i64 x] 3)).alloc (.cells #[.int .i64 v] 3)).cell? ⟨w.heap.size + 1, 0, none⟩ = some (.int .i64 v) by
    have := World.cell?_alloc_new (w.alloc (.cells #[.int .i64 x] 3)) #[.int .i64 v] 3 0
    simp at this ⊢)
  have HS := hide (show w.heap.size + 1 < ((w.alloc (.cells #[.int .i64 x] 3)).alloc (.cells #[.int .i64 v] 3)).heap.size by simp)
  have HE := hide (implExists_any va vb r c _ (inRow_below ha HBX.out) (inRow_below hb HBX.out))
  rw [h] at HE
  obtain ⟨hr5, hc5, -, -, -⟩ := sumsOk_yes (existsOf_sums h)
  have hmid := mid_img hr5.2 hc5.2 (img_of_exists h)
  have HR := hide fun (w' : World) (hw : Below w.heap.size w w') => rowsAt_any va vb r c y w' (inRow_below ha hw) (inRow_below hb hw) hy hr5.2 hc5.1 hmid
  have HOK : Hid (∀ row ∈ rowsAtL r c y, row.length = c.length) := hide fun row hrow => ((mem_rowsL _ _ _).1 (List.mem_filter.1 hrow).1).1
  obtain ⟨xa, ca, rfl, hma, -⟩ := ha
  obtain ⟨xb, cb, rfl, hmb, -⟩ := hb
  unfold maxLen at hma hmb
  obtain ⟨R, hRR⟩ : ∃ R, R = r.length := ⟨_, rfl⟩
  obtain ⟨C, hCC⟩ : ∃ C, C = c.length := ⟨_, rfl⟩
  rw [← hRR] at hy hma HE HR ⊢
  rw [← hCC] at hx hmb HE HR HOK ⊢
  have hyI : (y : Int) < R := by omega
  have hxI : (x : Int) < C := by omega
  have HXC := hide hx
  clear h hRR hCC hmid hr5 hc5
  go_enter Tryz.func20, Tryz.ntmps20
  go_wp2_with (go_at_call 46; refine HE.out.mono ?_; rintro e w1 ⟨rfl, b1⟩; have B1 := hide (HBX.out.trans (b1.mono HBX.out.size)); have hx1 := below_cell b1 (Nat.lt_of_succ_lt HS.out) HX.out; have HX1 := hide hx1; have HV1 := hide (below_cell b1 HS.out HV.out); have HS1 := hide (Nat.lt_of_lt_of_le HS.out b1.size); clear b1)
  refine (HR.out _ B1.out).mono ?_
  rintro e w2 ⟨u, rfl, hm, hb⟩
  have HM := hide (inMat_matT hm); have HB2 := hide (B1.out.trans (hb.mono B1.out.size))
  have HX2 := hide (below_cell hb (Nat.lt_of_succ_lt HS1.out) HX1.out); have HV2 := hide (below_cell hb HS1.out HV1.out); have HS2 := hide (Nat.lt_of_lt_of_le HS1.out hb.size)
  clear hm hb
  have HCON := hide (containsRows_any u (rowsAtL r c y) 58 #[.pointer (some ⟨w.heap.size, 0, none⟩), .pointer (some ⟨w.heap.size + 1, 0, none⟩)] (fun row => row.length = C) (fun row => row.getD x 0 == v) w2 (enters_of Tryz.func58 (by kernel_rfl) rfl) HM.out HOK.out (fun row u w5 hr hw hu => placePred_any u row x v (w.heap.size) (w.heap.size + 1) w5 (below_cell hw (Nat.lt_of_succ_lt HS2.out) HX2.out) (below_cell hw HS2.out HV2.out) hu (by rw [hr]; exact HXC.out)))
  go_wp2_with (go_at_call 56; refine HCON.out.mono ?_; rintro e w3 ⟨rfl, b3⟩; have B3 := hide (HB2.out.trans (b3.mono HB2.out.size)); clear b3)
  go_ret
  exact ⟨rfl, B3.out⟩
theorem implPlace_any (va vb : Value) (r c : List Int) (y x v : Int) (w : World) (ha : InRow w va r) (hb : InRow w vb c) :
    Calls Tryz.prog 20 #[va, vb, .int .i64 y, .int .i64 x, .int .i64 v] w fun e w' => e = .returned (.bool (placeOf r c y x v)) ∧ Below w.heap.size w w' := by
  cases h : existsOf r c with
  | false => exact implPlace_no va vb r c y x v w ha hb h
  | true =>
    by_cases ho : 0 ≤ y ∧ y < r.length ∧ 0 ≤ x ∧ x < c.length
    · obtain ⟨h1, h2, h3, h4⟩ := ho
      obtain ⟨y', rfl⟩ : ∃ y' : Nat, y = y' := ⟨y.toNat, by omega⟩
      obtain ⟨x', rfl⟩ : ∃ x' : Nat, x = x' := ⟨x.toNat, by omega⟩
      exact implPlace_in va vb r c y' x' v w ha hb h (by omega) (by omega)
    · exact implPlace_out va vb r c y x v w ha hb h ho
end Go.Proofs.YtcliiefedmiokaaGreat
/-
  LeastImage and CanPlace of the model.
-/
namespace Go.Proofs.YtcliiefedmiokaaGreat
open Go.RowKit

theorem place_color {r c : List Int} {y x v : Int} (h : ¬ (0 ≤ v ∧ v ≤ 1)) : placeOf r c y x v = false := by
  unfold placeOf
  by_cases hr : 0 ≤ y ∧ y < r.length ∧ 0 ≤ x ∧ x < c.length
  · have : (rowsAtL r c y.toNat).any (fun row => row.getD x.toNat 0 == v) = false := by
      rw [List.any_eq_false]
      intro row hrow
      have h1 := (mem_rowsL _ _ _).1 (List.mem_filter.1 hrow).1
      have h2 := rowOf_cell h1 (x := x.toNat) (by omega)
      rw [beq_iff_eq]
      intro e
      omega
    rw [this, Bool.and_false]
  · rw [decide_eq_false hr]; simp
/-- What l01In answers here. -/
def inB (n lo hi : Int) : Bool := decide (lo ≤ n ∧ n ≤ hi)
end Go.Proofs.YtcliiefedmiokaaGreat
/-
  AllImages and CountImages of the model.
-/
namespace Go.Proofs.YtcliiefedmiokaaGreat
open Go.RowKit

/-- All images with given sums; none where the sums are refused. -/
def allIm (r c : List Int) : List (List (List Int)) := if existsOf r c = true then allL r c else []
def countIm (r c : List Int) : Int := if sumsOk r c = true then ((allIm r c).length : Int) else -1
theorem allL_none {r c : List Int} (h : sumsOk r c = true) (he : existsOf r c = false) : allL r c = [] := by
  obtain ⟨hr, hc, -⟩ := sumsOk_yes h
  cases r with
  | nil => simp at hr
  | cons a r =>
    rw [allL, List.flatMap_eq_nil_iff]
    intro row hrow
    cases hb : restB r (subL c row) with
    | false => simp
    | true =>
      exfalso
      have h1 := (restB_iff (by simp at hr; omega) (by rw [subL_len]; exact hc)).1 hb
      have h2 := exists_of_img hr hc ((hasImg_cons a r c).2 ⟨row, (mem_rowsL _ _ _).1 hrow, h1⟩)
      rw [he] at h2; cases h2
theorem allIm_sums {r c : List Int} (h : sumsOk r c = true) : allIm r c = allL r c := by
  unfold allIm
  cases he : existsOf r c with
  | true => simp
  | false => simp [allL_none h he]
theorem allIm_refused {r c : List Int} (h : sumsOk r c = false) : allIm r c = [] := by
  unfold allIm
  rw [if_neg]
  intro he
  rw [existsOf_sums he] at h; cases h
theorem allIm_len (r c : List Int) : (allIm r c).length ≤ 100000 := by
  unfold allIm
  split
  · rename_i h
    obtain ⟨hr, hc, -⟩ := sumsOk_yes (existsOf_sums h)
    refine Nat.le_trans (allL_len r c hc.2) ?_
    exact Nat.le_trans (Nat.pow_le_pow_right (by decide) hr.2) (by decide)
  · simp
/-- The call answers a list of lists of lists of its own, and a bool. -/
def ImgsRes2 (ms : List (List (List Int))) (b : Bool) (w : World) (e : Ending) (w' : World) : Prop := ∃ v, e = .returned (.tuple #[v, .bool b]) ∧ OwnImgs w' w.heap.size v ms ∧ Below w.heap.size w w'
theorem ownImgs_nil (w : World) (lo : Nat) : OwnImgs w lo (.slice none 0 0) [] := ⟨[], World.ownsRow_nil _ _ _ _, fun _ h => absurd h (Nat.not_lt_zero _)⟩

end Go.Proofs.YtcliiefedmiokaaGreat
/-
  Masks: what meets them, all images that do, and when there is none.
-/
namespace Go.Proofs.YtcliiefedmiokaaGreat
open Go.RowKit Mx

/-- Two lists of one length whose elements fit, one by one. -/
def eqBy {α β : Type} (p : α → β → Bool) : List α → List β → Bool
  | [], [] => true
  | a :: l, b :: k => p a b && eqBy p l k
  | _, _ => false
theorem eqBy_len {α β : Type} {p : α → β → Bool} : ∀ {l : List α} {k : List β}, eqBy p l k = true → l.length = k.length
  | [], [], _ => rfl
  | a :: l, b :: k, h => by
    simp only [eqBy, Bool.and_eq_true] at h
    simp [eqBy_len h.2]
  | [], _ :: _, h => by simp [eqBy] at h
  | _ :: _, [], h => by simp [eqBy] at h
theorem eqBy_at {α β : Type} {p : α → β → Bool} : ∀ {l : List α} {k : List β} (i : Nat) (h1 : i < l.length) (h2 : i < k.length), eqBy p l k = true → p l[i] k[i] = true
  | a :: l, b :: k, 0, _, _, h => by simp only [eqBy, Bool.and_eq_true] at h; exact h.1
  | a :: l, b :: k, i + 1, h1, h2, h => by
    simp only [eqBy, Bool.and_eq_true] at h
    simpa using eqBy_at i (by simpa using h1) (by simpa using h2) h.2
theorem eqBy_yes {α β : Type} {p : α → β → Bool} : ∀ {l : List α} {k : List β}, l.length = k.length → (∀ i (h1 : i < l.length) (h2 : i < k.length), p l[i] k[i] = true) → eqBy p l k = true
  | [], [], _, _ => rfl
  | a :: l, b :: k, h, hp => by
    simp only [eqBy, Bool.and_eq_true]
    exact ⟨hp 0 (by simp) (by simp), eqBy_yes (by simpa using h) fun i h1 h2 => hp (i + 1) (by simpa using h1) (by simpa using h2)⟩
  | [], _ :: _, h, _ => by simp at h
  | _ :: _, [], h, _ => by simp at h
theorem eqBy_no1 {α β : Type} {p : α → β → Bool} {l : List α} {k : List β} (h : l.length ≠ k.length) : eqBy p l k = false := by
  cases e : eqBy p l k with
  | false => rfl
  | true => exact absurd (eqBy_len e) h
theorem eqBy_no2 {α β : Type} {p : α → β → Bool} {l : List α} {k : List β} (i : Nat) (h1 : i < l.length) (h2 : i < k.length) (h : p l[i] k[i] = false) : eqBy p l k = false := by
  cases e : eqBy p l k with
  | false => rfl
  | true => have := eqBy_at i h1 h2 e; rw [h] at this; cases this

/-- A cell meets an element of a mask. -/
def meetC (c k : Int) : Bool := k == -1 || k == c
def meetR : List Int → List Int → Bool := eqBy meetC
def meetM : List (List Int) → List (List Int) → Bool := eqBy meetR
def meetsB (m k : List (List Int)) : Bool := okB m && meetM m k
def maskRowB (C : Nat) (q : List Int) : Bool := q.length == C && q.all fun x => x == -1 || cellOk x
def maskB (k : List (List Int)) (r c : List Int) : Bool := sumsOk r c && k.length == r.length && k.all (maskRowB c.length)

/-- All images whose rows are chosen so, row by row: p says of a row, before these sums of the rows below, whether it may stand there. -/
def imL (p : List Int → List Int → Bool) : List Int → List Int → List (List (List Int))
  | [], _ => [[]]
  | a :: r, c => ((firstRows a r c).filter (p r)).flatMap fun row => (imL p r (subL c row)).map (row :: ·)
theorem imL_all : ∀ (r c : List Int), imL (fun _ _ => true) r c = allL r c
  | [], _ => rfl
  | a :: r, c => by
    rw [imL, allL, List.filter_eq_self.2 (fun _ _ => rfl), firstRows, flat_filterM]
    exact congrArg (List.flatMap · _) (funext fun row => by rw [imL_all r])
where
  flat_filterM {α β : Type} (p : α → Bool) (f : α → List β) : ∀ l : List α, (l.filter p).flatMap f = l.flatMap fun x => if p x then f x else []
  | [] => rfl
  | x :: l => by
    rw [List.flatMap_cons, List.filter_cons, ← flat_filterM p f l]
    cases p x <;> simp
theorem imL_sub (p : List Int → List Int → Bool) : ∀ (r c : List Int), ∀ {m : List (List Int)}, m ∈ imL p r c → m ∈ allL r c
  | [], _, _, h => h
  | a :: r, c, m, h => by
    rw [imL, List.mem_flatMap] at h
    obtain ⟨row, h1, h2⟩ := h
    obtain ⟨m', h3, rfl⟩ := List.mem_map.1 h2
    obtain ⟨h4, -⟩ := List.mem_filter.1 h1
    obtain ⟨h5, h6⟩ := List.mem_filter.1 h4
    rw [allL, List.mem_flatMap]
    exact ⟨row, h5, by rw [if_pos h6]; exact List.mem_map.2 ⟨m', imL_sub p r _ h3, rfl⟩⟩
/-- The row of a mask that stands before so many rows. -/
def maskP (k : List (List Int)) (r row : List Int) : Bool := meetR row (k.getD (k.length - (r.length + 1)) [])
theorem filter_map_cons {α : Type} (q : List α → Bool) (x : α) : ∀ l : List (List α), (l.map (x :: ·)).filter q = (l.filter fun m => q (x :: m)).map (x :: ·)
  | [] => rfl
  | m :: l => by
    rw [List.map_cons, List.filter_cons, List.filter_cons, filter_map_cons q x l]
    cases q (x :: m) <;> simp
theorem filter_flat {α β : Type} (q : β → Bool) (f : α → List β) : ∀ l : List α, (l.flatMap f).filter q = l.flatMap fun x => (f x).filter q
  | [] => rfl
  | x :: l => by rw [List.flatMap_cons, List.flatMap_cons, List.filter_append, filter_flat q f l]
theorem imL_mask : ∀ (r c : List Int) (k : List (List Int)), r.length ≤ k.length → imL (maskP k) r c = (allL r c).filter fun m => meetM m (k.drop (k.length - r.length))
  | [], c, k, _ => by
    rw [imL, allL, List.length_nil, Nat.sub_zero, List.drop_length]; rfl
  | a :: r, c, k, h => by
    rw [List.length_cons] at h
    have hd : k.drop (k.length - (r.length + 1)) = k.getD (k.length - (r.length + 1)) [] :: k.drop (k.length - r.length) := by
      rw [List.drop_eq_getElem_cons (by omega), List.getD_eq_getElem?_getD, List.getElem?_eq_getElem (by omega), Option.getD_some, show k.length - (r.length + 1) + 1 = k.length - r.length by omega]
    rw [imL, List.length_cons, hd, ← imL_all, imL, filter_flat, List.filter_eq_self.2 (fun _ _ => rfl), imL_all.flat_filterM]
    refine congrArg (List.flatMap · _) (funext fun row => ?_)
    rw [filter_map_cons, imL_all, imL_mask r (subL c row) k (by omega)]
    have hp : ∀ m, meetM (row :: m) (k.getD (k.length - (r.length + 1)) [] :: k.drop (k.length - r.length)) = (maskP k r row && meetM m (k.drop (k.length - r.length))) := fun m => rfl
    cases hc : maskP k r row with
    | false =>
      rw [if_neg (by simp), List.filter_eq_nil_iff.2 (fun m _ => by rw [hp, hc]; simp)]; rfl
    | true =>
      rw [if_pos rfl]
      exact congrArg _ (List.filter_congr fun m _ => by rw [hp, hc, Bool.true_and])
/-- The images that meet a mask. -/
def maskedL (k : List (List Int)) (r c : List Int) : List (List (List Int)) := (allIm r c).filter fun m => meetM m k
theorem maskedL_im {k : List (List Int)} {r c : List Int} (h : maskB k r c = true) : imL (maskP k) r c = maskedL k r c := by
  unfold maskB at h
  simp only [Bool.and_eq_true, beq_iff_eq] at h
  rw [imL_mask r c k (by omega), h.1.2, Nat.sub_self, List.drop_zero, maskedL, allIm_sums h.1.1]
def maskedImB (k : List (List Int)) (r c : List Int) : Bool := maskB k r c && !(maskedL k r c).isEmpty
def maskedIm (k : List (List Int)) (r c : List Int) : List (List Int) := if maskB k r c = true then (maskedL k r c).headD [] else []
def maskedCnt (k : List (List Int)) (r c : List Int) : Int := if maskB k r c = true then ((maskedL k r c).length : Int) else -1
end Go.Proofs.YtcliiefedmiokaaGreat
