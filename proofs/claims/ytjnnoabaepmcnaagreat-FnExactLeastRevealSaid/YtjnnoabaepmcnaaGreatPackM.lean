/-
  Texts of this claim, one behind the other: AllS, LeastI, PlaceI, LeastS, AllQ.
-/
import Derived.Test.YtjnnoabaepmcnaaGreatPackL
import Derived.Test.YtjnnoabaepmcnaaGreatPackH
import Derived.Test.YtjnnoabaepmcnaaGreatPackJ
import Derived.Test.YtjnnoabaepmcnaaGreatPackB
/-
  l05All of the model: all images with given sums, one behind the other.
-/
namespace Go.Proofs.YtjnnoabaepmcnaaGreat
open Go.RowKit

theorem ownM2_matT {w : World} {lo : Nat} {v : Value} {m : List (List Int)} (h : OwnM2 w lo v m) : MatT w lo v m := by
  obtain ⟨hi, -, h⟩ := h
  exact matT_own h
/-- A list of integers that came in, or that some call has made. -/
def Keep (w0 w : World) (v : Value) (c : List Int) : Prop := InRow w0 v c ∨ ∃ B, w.ownsRow B 3 1 v c.length (ints c)
theorem keep_row {w0 w : World} {v : Value} {c : List Int} (h : Keep w0 w v c) (hb : Below w0.heap.size w0 w) : InRow w v c := by
  rcases h with h | ⟨B, h⟩
  · exact inRow_below h hb
  · exact inRow_own h
theorem keep_below {w0 w w' : World} {v : Value} {c : List Int} (h : Keep w0 w v c) (hb : Below w.heap.size w w') : Keep w0 w' v c := by
  rcases h with h | ⟨B, h⟩
  · exact .inl h
  · exact .inr ⟨B, own_below h hb⟩
theorem keep_kept {w0 w w' : World} {v u : Value} {c : List Int} {B e n : Nat} {xs : List Value} (h : Keep w0 w v c) (hu : w.ownsRow B e 1 u n xs) (hg : w.grownBy w' u.ownBlock) (hne : 3 ≠ e) : Keep w0 w' v c := by
  rcases h with h | ⟨B', h⟩
  · exact .inl h
  · exact .inr ⟨B', h.kept hg (own_types h hu hne)⟩

/-- What l05All answers. -/
def AllRes (lo : Nat) (vout : Value) (ms : List (List (List Int))) (w : World) (e : Ending) (w' : World) : Prop :=
  ∃ u, e = .returned u ∧ OwnImgs w' lo u ms ∧ w.grownBy w' vout.ownBlock ∧ (u.ownBlock = vout.ownBlock ∨ ∀ q, u.ownBlock = some q → w.heap.size ≤ q)

theorem rowsL_ten (n : Nat) (s : Int) (hn : n ≤ 5) : (rowsLn n s).length ≤ 10 := by
  by_cases hs : 0 ≤ s ∧ s ≤ 5
  · obtain ⟨k, rfl⟩ : ∃ k : Nat, s = k := ⟨s.toNat, by omega⟩
    have key : ∀ n : Nat, n ≤ 5 → ∀ k : Nat, k ≤ 5 → (rowsLn n (k : Int)).length ≤ 10 := by decide +kernel
    exact key n hn k (by omega)
  · rw [show rowsLn n s = [] from ?_]
    · simp
    · rw [List.eq_nil_iff_forall_not_mem]
      intro row hr
      obtain ⟨g1, g2, g3⟩ := (mem_rowsL _ _ _).1 hr
      have h0 := sum_nonneg01 row g2
      have h5 : ∀ l : List Int, (∀ x ∈ l, x = 0 ∨ x = 1) → l.sum ≤ l.length := fun l => by
        induction l with
        | nil => intro _; exact Int.le_refl _
        | cons x l ih =>
          intro h
          have := ih fun y hy => h y (List.mem_cons_of_mem _ hy)
          have := h x List.mem_cons_self
          rw [List.sum_cons, List.length_cons]; omega
      have := h5 row g2
      omega
/-- The images that begin with one of the rows. -/
def fromRows (r c : List Int) (l : List (List Int)) : List (List (List Int)) := l.flatMap fun row => if restB r (subL c row) then (allL r (subL c row)).map (row :: ·) else []
theorem fromRows_all (a : Int) (r c : List Int) : fromRows r c (rowsLn c.length a) = allL (a :: r) c := rfl
theorem fromRows_snoc (r c : List Int) (l : List (List Int)) (row : List Int) : fromRows r c (l ++ [row]) = fromRows r c l ++ if restB r (subL c row) then (allL r (subL c row)).map (row :: ·) else [] := by
  unfold fromRows
  rw [List.flatMap_append]; simp
theorem allL_len : ∀ (r c : List Int), c.length ≤ 5 → (allL r c).length ≤ 10 ^ r.length
  | [], c, _ => by simp [allL]
  | a :: r, c, hc => by
    rw [← fromRows_all]
    have h : ∀ l : List (List Int), (fromRows r c l).length ≤ l.length * 10 ^ r.length := fun l => by
      induction l with
      | nil => simp [fromRows]
      | cons x l ih =>
        unfold fromRows at ih ⊢
        rw [List.flatMap_cons, List.length_append, List.length_cons, Nat.add_mul, Nat.one_mul]
        have : (if restB r (subL c x) then (allL r (subL c x)).map (x :: ·) else []).length ≤ 10 ^ r.length := by
          split
          · rw [List.length_map]; exact allL_len r _ (by rw [subL_len]; exact hc)
          · simp
        omega
    refine Nat.le_trans (h _) ?_
    rw [List.length_cons, Nat.pow_succ, Nat.mul_comm]
    exact Nat.mul_le_mul_left _ (rowsL_ten _ _ hc)
theorem fromRows_len (r c : List Int) (hc : c.length ≤ 5) (l : List (List Int)) : (fromRows r c l).length ≤ l.length * 10 ^ r.length := by
  induction l with
  | nil => simp [fromRows]
  | cons x l ih =>
    unfold fromRows at ih ⊢
    rw [List.flatMap_cons, List.length_append, List.length_cons, Nat.add_mul, Nat.one_mul]
    have : (if restB r (subL c x) then (allL r (subL c x)).map (x :: ·) else []).length ≤ 10 ^ r.length := by
      split
      · rw [List.length_map]; exact allL_len r _ (by rw [subL_len]; exact hc)
      · simp
    omega
theorem leftOk_small {c row : List Int} (hc : ∀ x, x < c.length → 0 ≤ c.getD x 0 ∧ c.getD x 0 ≤ 5) (hl : c.length ≤ 5) (hr : ∀ x, x < c.length → row.getD x 0 = 0 ∨ row.getD x 0 = 1) (h : leftOk c row = true) : SmallL (subL c row) := by
  refine ⟨by rw [subL_len]; exact hl, fun i hi => ?_⟩
  have hi' : i < c.length := by rw [subL_len] at hi; exact hi
  have h1 := leftOk_iff.1 h i hi'
  have h2 := hc i hi'; have h3 := hr i hi'
  have e : (subL c row)[i] = c.getD i 0 - row.getD i 0 := tabL_at _
  rw [e]; omega
theorem rest_not {r c row : List Int} (h : leftOk c row = false) : restB r (subL c row) = false := by
  unfold leftOk at h
  rw [List.all_eq_false] at h
  obtain ⟨x, hx, h1⟩ := h
  have hx' : x < c.length := by simpa using hx
  have hneg : (subL c row).getD x 0 < 0 := by rw [subL_getD hx']; simp at h1; simp only [List.getD_eq_getElem?_getD]; omega
  have hlt : x < (subL c row).length := by rw [subL_len]; exact hx'
  have hmem : (subL c row).getD x 0 ∈ subL c row := by rw [List.getD_eq_getElem?_getD, List.getElem?_eq_getElem hlt]; exact List.getElem_mem hlt
  unfold restB
  split
  · rw [Bool.not_eq_false', List.any_eq_true]
    exact ⟨_, hmem, by unfold badB; rw [decide_eq_true hneg]; rfl⟩
  · cases he : existsOf r (subL c row) with
    | false => rfl
    | true =>
      exfalso
      obtain ⟨-, -, -, hcb, -⟩ := sumsOk_yes (existsOf_sums he)
      rw [List.any_eq_false] at hcb
      exact hcb _ hmem (by unfold badB; rw [decide_eq_true hneg]; rfl)
theorem sum_zero : ∀ (l : List Int), (∀ x ∈ l, 0 ≤ x) → ((l.sum = 0) ↔ ∀ x ∈ l, x = 0)
  | [], _ => by simp
  | x :: l, h => by
    have h1 := sum_zero l fun y hy => h y (List.mem_cons_of_mem _ hy)
    have h2 := h x List.mem_cons_self
    have h3 : 0 ≤ l.sum := by
      clear h1 h2
      induction l with
      | nil => exact Int.le_refl _
      | cons y l ih =>
        rw [List.sum_cons]
        have := h y (by simp)
        have := ih fun z hz => h z (by rcases List.mem_cons.1 hz with rfl | hz <;> simp [*])
        omega
    rw [List.sum_cons]
    constructor
    · intro h4 y hy
      rcases List.mem_cons.1 hy with rfl | hy
      · omega
      · exact h1.1 (by omega) y hy
    · intro h4
      have h5 := h4 x List.mem_cons_self
      have h6 := h1.2 fun y hy => h4 y (List.mem_cons_of_mem _ hy)
      omega
theorem rest_nil {l : List Int} (h : SmallL l) : restB [] l = (l.sum == 0) := by
  unfold restB
  rw [if_pos rfl, Bool.eq_iff_iff, beq_iff_eq, sum_zero l (fun x hx => by obtain ⟨i, hi, rfl⟩ := List.getElem_of_mem hx; exact (h.2 i hi).1), Bool.not_eq_true', List.any_eq_false]
  constructor
  · intro h1 x hx
    have := h1 x hx
    simp only [badB, Bool.or_eq_true, decide_eq_true_eq, not_or] at this
    omega
  · intro h1 x hx
    rw [h1 x hx]; decide
theorem rest_cons {b : Int} {r l : List Int} : restB (b :: r) l = existsOf (b :: r) l := by unfold restB; rw [if_neg (by simp)]

set_option maxHeartbeats 1000000 in
theorem specAll_nil (w : World) (lo lod : Nat) (c : List Int) (d : List (List Int)) (ms : List (List (List Int))) (vout vd vr vc : Value) (ho : OwnImgs w lo vout ms) (hd : MatT w lod vd d) (hr : InRow w vr []) (hdl : d.length ≤ 5) (hdr : ∀ q ∈ d, q.length ≤ 5) (hsz : ms.length + 1 ≤ 1000000) (hlo : lo ≤ w.heap.size) :
    Calls Tryz.prog 36 #[vout, vd, vr, vc] w (AllRes lo vout (ms ++ (allL [] c).map (d ++ ·)) w) := by
  have e1 : ms ++ (allL [] c).map (d ++ ·) = ms ++ [d] := by simp [allL]
  rw [e1]
  have HCP := hide (copyRows_any vd d lod w hd (by omega) fun q hq => by have := hdr q hq; omega)
  have HO := hide ho
  obtain ⟨xr, cr, rfl, -, -⟩ := hr
  simp only [List.length_nil]
  clear hd ho hdl hdr
  go_enter Tryz.func36, Tryz.ntmps36
  go_wp2_with (first | (go_at_call 55; refine HCP.out.mono ?_; rintro e w1 ⟨u, rfl, hu, hb⟩; obtain ⟨ua, un, uc, hue⟩ : ∃ a n c, u = .slice a n c := (by obtain ⟨a, c, rfl, -⟩ := inMat_own hu; exact ⟨a, _, c, rfl⟩); subst hue; have HU := hide (⟨w1.heap.size, Nat.le_refl _, ownMat_mono hu hlo (Nat.le_refl _)⟩ : OwnM2 w1 lo _ d); have HB := hide hb; obtain ⟨us, hv, hvr⟩ := ownImgs_below HO.out hb; have HV := hide hv; have HVR := hide hvr; have hs1 := hb.size; clear hu hb hv hvr) | (at_builtin; refine wpList_pushl HV.out (.slice ua un uc) (.slice none 0 0) rfl _ _ rfl Tryz.underlying35 Tryz.infoMat rfl (by decide) rfl rfl rfl (by omega) (by omega) ?_; intro g cap w6 hown1 hb1 hg1 hat1))
  go_ret
  refine ⟨_, rfl, ownImgs_push HV.out HVR.out HU.out hg1 hown1, grown_trans (grown_of_below HB.out _) hg1, ?_⟩
  rcases hat1 with h | h
  · exact .inl (by rw [h]; rfl)
  · right
    intro q e
    simp [Value.ownBlock] at e
    omega
theorem fromRows_no {r c row : List Int} {L : List (List Int)} {j : Nat} (h : L.take (j + 1) = L.take j ++ [row]) (hr : restB r (subL c row) = false) : fromRows r c (L.take (j + 1)) = fromRows r c (L.take j) := by
  rw [h, fromRows_snoc, hr]; simp
theorem fromRows_yes {r c row : List Int} {L : List (List Int)} {j : Nat} (d : List (List Int)) (ms : List (List (List Int))) (h : L.take (j + 1) = L.take j ++ [row]) (hr : restB r (subL c row) = true) :
    ms ++ (fromRows r c (L.take (j + 1))).map (d ++ ·) = (ms ++ (fromRows r c (L.take j)).map (d ++ ·)) ++ (allL r (subL c row)).map ((d ++ [row]) ++ ·) := by
  rw [h, fromRows_snoc, hr, if_pos rfl, List.map_append, List.map_map, List.append_assoc]
  congr 3
  funext m
  simp
theorem below_grown0 {w0 w w' : World} {lo : Nat} {v : Value} {e n : Nat} {xs : List Value} (hb : Below w0.heap.size w0 w) (hv : w.ownsRow lo e 1 v n xs) (hg : w.grownBy w' v.ownBlock) (h0 : w0.heap.size ≤ lo) : Below w0.heap.size w0 w' :=
  hb.grown hg hb.size fun k hk => Nat.le_trans h0 (hv.lt k hk).1
/-- 'append(m, row)' at rows that the call has made. -/
theorem exec_snocMat {ρ : Operand → Value} {o : Oper} {w : World} {x y : Operand} {b lo hi B0 : Nat} {v urow : Value} {row : List Int} {m : List (List Int)}
    (ho : o.op = .call { callee := .builtin .append, args := #[x, y], argTypes := #[22, 22] }) (hx : ρ x = v) (hy : ρ y = .slice (some ⟨b, 0, none⟩) 1 1)
    (hm : OwnMat w lo hi v m) (hown : w.ownsRow b 23 1 (.slice (some ⟨b, 0, none⟩) 1 1) 1 [urow]) (hrow : w.ownsRow B0 3 1 urow row.length (ints row)) (hB : B0 ≤ lo) (hlo : lo ≤ w.heap.size) (h5 : m.length ≤ 1000) :
    ∃ v' w', (execOp ρ o).run Tryz.prog w = .ok (.value v') w' ∧ MatT w' B0 v' (m ++ [row]) ∧ w.grownBy w' v.ownBlock := by
  obtain ⟨vs, hv, hvh, hvr, hva⟩ := hm
  have hvl : vs.length = m.length := by have := hv.1; omega
  obtain ⟨i0, hi0', hz0, hz1, hz2⟩ := info_parts Tryz.infoInts
  obtain ⟨v', w', hr, g1, g2, -⟩ := run_append_own (P := Tryz.prog) w lo 22 o.type 23 i0 (.slice none 0 0) 1 24 Tryz.underlying22 hi0' hz0 hz1 hz2 rfl (by decide) v m.length vs hv ⟨b, 0, none⟩ 1 1 [urow] (by simp) (fun j u hj => by
      rw [addr_add, Nat.zero_add]
      have hj' : j < 1 := by have := (List.getElem?_eq_some_iff.1 hj).1; simpa using this
      rw [hown.cellAt j (by omega), hj]) (fun u hu => by
      obtain rfl : u = urow := by simpa using hu
      obtain ⟨a, c, e⟩ := own_slice hrow
      rw [e]; rfl) (by unfold maxLen; omega) (by omega) hlo
  refine ⟨v', w', ?_, ⟨vs ++ [urow], ?_, fun i h => ?_⟩, g2⟩
  · unfold execOp
    simp only [ho, resolve, invoke, builtin, Sem.run_bind, Sem.run_pure, Result.andThen_ok, List.map_toArray, List.map_cons, List.map_nil, hx, hy, hr]
  · have := own_base (base' := B0) g1 hB
    rw [List.length_append]; exact this
  · by_cases e : i < m.length
    · have e1 : (vs ++ [urow]).getD i undef = vs.getD i undef := by simp [List.getD_eq_getElem?_getD, List.getElem?_append_left (show i < vs.length by omega)]
      rw [e1, List.getElem_append_left e]
      have h0 := (hvr i e).1
      exact own_base (h0.kept g2 (own_types h0 hv (by decide))) hB
    · obtain rfl : i = m.length := by simp at h; omega
      have e1 : (vs ++ [urow]).getD m.length undef = urow := by rw [← hvl]; simp [List.getD_eq_getElem?_getD]
      rw [e1, show (m ++ [row])[m.length] = row by simp]
      exact hrow.kept g2 (own_types hrow hv (by decide))
/-- What the call for the rows that are left answers. -/
def resF (W : World) (lo : Nat) (v : Value) (ms : List (List (List Int))) : FactP := fun u w' => OwnImgs w' lo u ms ∧ W.grownBy w' v.ownBlock ∧ (u.ownBlock = v.ownBlock ∨ ∀ q, u.ownBlock = some q → W.heap.size ≤ q)
theorem stable_resF (W : World) (lo : Nat) (v : Value) (ms : List (List (List Int))) : StableP (resF W lo v ms) := fun _ _ _ hb h => ⟨ownImgs_below h.1 hb, grown_trans h.2.1 (grown_of_below hb _), h.2.2⟩
set_option maxRecDepth 100000 in
set_option maxHeartbeats 8000000 in
theorem specAll_cons (a : Int) (r : List Int)
    (ih : ∀ (w0 w : World) (lo lod : Nat) (c : List Int) (d : List (List Int)) (ms : List (List (List Int))) (vout vd vr vc : Value), OwnImgs w lo vout ms → MatT w lod vd d → RowC w0 vr r → Keep w0 w vc c → Below w0.heap.size w0 w → w0.heap.size ≤ lo → lo ≤ w.heap.size → d.length + r.length ≤ 5 → (∀ q ∈ d, q.length ≤ 5) → (∀ x ∈ r, 0 ≤ x ∧ x ≤ 5) → (1 ≤ c.length ∧ c.length ≤ 5) → (∀ x, x < c.length → 0 ≤ c.getD x 0 ∧ c.getD x 0 ≤ 5) → ms.length + 10 ^ r.length ≤ 1000000 →
      Calls Tryz.prog 36 #[vout, vd, vr, vc] w (AllRes lo vout (ms ++ (allL r c).map (d ++ ·)) w))
    (w0 w : World) (lo lod : Nat) (c : List Int) (d : List (List Int)) (ms : List (List (List Int))) (vout vd vr vc : Value) (ho : OwnImgs w lo vout ms) (hd : MatT w lod vd d) (hr : RowC w0 vr (a :: r)) (hk : Keep w0 w vc c) (hb : Below w0.heap.size w0 w) (h0 : w0.heap.size ≤ lo) (hlo : lo ≤ w.heap.size)
    (hdl : d.length + (a :: r).length ≤ 5) (hdr : ∀ q ∈ d, q.length ≤ 5) (hrs : ∀ x ∈ a :: r, 0 ≤ x ∧ x ≤ 5) (hc : 1 ≤ c.length ∧ c.length ≤ 5) (hcs : ∀ x, x < c.length → 0 ≤ c.getD x 0 ∧ c.getD x 0 ≤ 5) (hsz : ms.length + 10 ^ (a :: r).length ≤ 1000000) :
    Calls Tryz.prog 36 #[vout, vd, vr, vc] w (AllRes lo vout (ms ++ (allL (a :: r) c).map (d ++ ·)) w) := by
  rw [← fromRows_all]
  have ha := hrs a List.mem_cons_self
  have HRW := hide (fun w => specRows_any c.length a w hc.2 (by omega))
  have HTN := hide (rowsL_ten c.length a hc.2)
  have HROW : Hid (∀ row ∈ rowsLn c.length a, RowOf c.length a row) := hide fun row h => (mem_rowsL _ _ _).1 h
  obtain ⟨L, hL⟩ : ∃ L, L = rowsLn c.length a := ⟨_, rfl⟩
  rw [← hL] at HRW HTN HROW ⊢
  have HO := hide ho; have HD := hide hd; have HK := hide hk; have HB := hide hb; have H0 := hide h0; have HDR := hide hdr; have HCS := hide hcs; have HC := hide hc
  have HRS : Hid (∀ x ∈ r, 0 ≤ x ∧ x ≤ 5) := hide fun x hx => hrs x (List.mem_cons_of_mem _ hx)
  have HIH := hide ih
  have HDL : Hid (d.length + 1 + r.length ≤ 5) := hide (by rw [List.length_cons] at hdl; omega)
  have HSZ : Hid (ms.length + 10 * 10 ^ r.length ≤ 1000000) := hide (by rw [List.length_cons, Nat.pow_succ] at hsz; omega)
  have HFL := hide fun l => fromRows_len r c hc.2 l
  have HT := hr
  obtain ⟨⟨xr, cr, he, hm, hp⟩, -⟩ := hr
  obtain ⟨gr, or', rfl, hgr, hcell⟩ := hp.resolve_left (by simp)
  have hcap : r.length + 1 ≤ cr ∧ cr ≤ maxLen := by
    obtain ⟨-, a2, c2, he2, h2, h3⟩ := HT
    rw [he] at he2; cases he2
    simpa using ⟨h2, h3⟩
  obtain ⟨hcap1, hcap2⟩ := hcap
  have hra := below_cell hb hgr (hcell 0 (by simp))
  simp only [Nat.add_zero, List.getElem_cons_zero] at hra
  subst he
  obtain ⟨at1, hat1⟩ : ∃ at1, at1 = if cr = 1 then some (⟨gr, or', none⟩ : Addr) else some ⟨gr, or' + 1, none⟩ := ⟨_, rfl⟩
  have HAT := hide hat1
  have htail := rowC_tail HT
  rw [← hat1] at htail
  obtain ⟨RR, hRR⟩ : ∃ RR, RR = (a :: r).length := ⟨_, rfl⟩
  rw [← hRR] at htail hm ⊢
  have HRR : Hid (RR = r.length + 1) := hide (by rw [hRR]; simp)
  have HTAIL := hide htail
  have hRR1 : 1 ≤ RR := by rw [hRR]; simp
  have hcapR : RR ≤ cr := by rw [hRR, List.length_cons]; exact hcap1
  obtain ⟨xc, nc, cc, hvc⟩ : ∃ a n c, vc = .slice a n c := by obtain ⟨a, c, rfl, -⟩ := keep_row hk hb; exact ⟨a, _, c, rfl⟩
  have hnc : nc = c.length := by
    obtain ⟨a, c', he, -⟩ := keep_row hk hb
    rw [hvc] at he; cases he; rfl
  subst hvc
  have HNC := hide hnc
  rw [← hnc] at HRW hc
  obtain ⟨hc1, hc5⟩ := hc
  unfold maxLen at hcap2 hm
  clear ho hd hk hb h0 hdl hdr hrs hcs hsz hL htail hat1 HT hRR hnc hcap1 hp hcell ha ih
  go_enter Tryz.func36, Tryz.ntmps36
  go_wp2_with (go_at_call 56; refine (HRW.out _).mono ?_; rintro e w1 ⟨uL, rfl, hu, hb⟩; obtain ⟨xL, nL, cL, huL⟩ : ∃ a n c, uL = .slice a n c := (by obtain ⟨a, c, rfl, -⟩ := inMat_own hu; exact ⟨a, _, c, rfl⟩); have hnL : nL = L.length := (by obtain ⟨a, c', he, -⟩ := inMat_own hu; rw [huL] at he; cases he; rfl); subst huL; have HNL := hide hnL; have HUL := hide (matT_own hu); have HB1 := hide hb; clear hu hb hnL)
  have HB01 : Hid (Below w0.heap.size w0 w1) := hide (HB.out.trans (HB1.out.mono HB.out.size))
  have HK1 := hide (keep_below HK.out HB1.out); have HD1 := hide (matT_below HD.out HB1.out)
  have HO1 : Hid (OwnImgs w1 lo vout (ms ++ (fromRows r c (L.take 0)).map (d ++ ·))) := hide (by
    have := ownImgs_below HO.out HB1.out
    simpa [fromRows] using this)
  have hs1 := HB1.out.size
  have HS1 := hide hs1
  clear HO HD HK HB HRW hra hs1
  go_loopw [0, 28] (fun o i w' => ∃ (j : Nat) (v : Value), j ≤ nL ∧ i = .int .i64 j ∧ v = o ∧ OwnImgs w' lo v (ms ++ (fromRows r c (L.take j)).map (d ++ ·)) ∧ w.grownBy w' vout.ownBlock ∧ (v.ownBlock = vout.ownBlock ∨ ∀ q, v.ownBlock = some q → w.heap.size ≤ q) ∧ MatT w' w.heap.size (.slice xL nL cL) L ∧ MatT w' lod vd d ∧ Keep w0 w' (.slice xc nc cc) c ∧ Below w0.heap.size w0 w') (fun _ i _ => nL - (intOf i).toNat)
  case atStart => exact ⟨0, _, Nat.zero_le _, rfl, rfl, HO1.out, grown_of_below HB1.out _, .inl rfl, HUL.out, HD1.out, HK1.out, HB01.out⟩
  case round =>
    clear HO1 HUL HD1 HK1 HB01 HB1
    obtain ⟨j, v, hj, rfl, rfl, hown, hgrow, hwhere, hul, hd, hk, hb⟩ := hrel
    have HO := hide hown; have HG := hide hgrow; have HWH := hide hwhere; have HUL := hide hul; have HD := hide hd; have HK := hide hk; have HB := hide hb
    clear hown hgrow hwhere hd hk hb
    by_cases hlt : j < nL
    · have hjL : j < L.length := by rw [← HNL.out]; exact hlt
      have hltI : (j : Int) < nL := by omega
      have hL10 : nL ≤ 10 := by rw [HNL.out]; exact HTN.out
      have HRJ := hide (HROW.out _ (List.getElem_mem hjL))
      have HTK := hide (take_snoc L j hjL)
      obtain ⟨vs, hv, hrow⟩ := hul
      rw [← HNL.out] at hv
      obtain ⟨gL, cL', he, -, -, -, -, -, -⟩ := own_some hv (by omega)
      cases he
      have hx := cell_held hv hlt
      have hrj := hrow j hjL
      obtain ⟨row, hrw⟩ : ∃ row, row = L[j] := ⟨_, rfl⟩
      obtain ⟨uj, huj⟩ : ∃ uj, uj = vs.getD j undef := ⟨_, rfl⟩
      rw [← hrw] at HRJ HTK hrj
      rw [← huj] at hx hrj
      have HRO := hide hrj
      obtain ⟨xr, cr2, he⟩ := own_slice hrj
      rw [HRJ.out.1, ← HNC.out] at he
      have HLEFT := hide (l05Left_any (.slice xc nc cc) uj c row wr (keep_row HK.out HB.out) (inRow_own hrj) HRJ.out.1 ⟨by rw [← HNC.out]; exact hc5, fun x hx => by have := HCS.out x hx; omega⟩ (mid_rowOf HRJ.out (by rw [← HNC.out]; exact hc5)))
      clear hv hrow hrj hrw huj
      subst he
      go_wp2_with fail
      refine HLEFT.out.mono ?_
      rintro e w2 ⟨u2, rfl, ho2, hb2⟩
      obtain ⟨F, hF⟩ : ∃ F, F = leftOk c row := ⟨_, rfl⟩
      have HF := hide hF
      rw [← hF] at ho2 ⊢
      have HB2 := hide hb2
      clear hF hb2
      cases F with
      | false =>
        have HR0 := hide (rest_not (r := r) HF.out.symm)
        clear ho2
        have HSTEP := hide (fromRows_no HTK.out HR0.out)
        go_wp2
        refine ⟨⟨j + 1, v, by omega, by go_num, rfl, by rw [HSTEP.out]; exact ownImgs_below HO.out HB2.out, grown_trans HG.out (grown_of_below HB2.out _), HWH.out, matT_below HUL.out HB2.out, matT_below HD.out HB2.out, keep_below HK.out HB2.out, HB.out.trans (HB2.out.mono HB.out.size)⟩, by simp [intOf]; omega⟩
      | true =>
        rw [if_pos rfl, subL_len, ← HNC.out] at ho2
        obtain ⟨a2, c2, rfl⟩ := own_slice ho2
        have HSM := hide (leftOk_small HCS.out HC.out.2 (fun x hx => rowOf_cell HRJ.out hx) HF.out.symm)
        have HL2 := hide ho2
        have HLR := hide (inRow_own (r := subL c row) (by rw [subL_len, ← HNC.out]; exact ho2))
        have HBW := hide (HB.out.trans (HB2.out.mono HB.out.size))
        clear ho2
        have hcase : (RR = 1 ∧ r = []) ∨ (2 ≤ RR ∧ ∃ b l, r = b :: l) := by
          cases r with
          | nil => left; exact ⟨HRR.out, rfl⟩
          | cons b l => right; exact ⟨by rw [HRR.out]; simp, b, l, rfl⟩
        rcases hcase with ⟨hR1, hrn⟩ | ⟨hR2, hrc⟩
        · have HTOT := hide (l03Total_any _ _ w2 HLR.out HSM.out)
          have HRB : Hid (restB r (subL c row) = ((subL c row).sum == 0)) := hide (by rw [hrn]; exact rest_nil HSM.out)
          obtain ⟨S0, hS0⟩ : ∃ S0, S0 = (subL c row).sum := ⟨_, rfl⟩
          rw [← hS0] at HTOT HRB
          have heq1 : ((RR : Int) == 1) = true := by rw [hR1]; rfl
          have hngt : ¬ (1 : Int) < RR := by omega
          clear hrn hS0 hR1
          by_cases hz : S0 = 0
          · subst hz
            have HR1 : Hid (restB r (subL c row) = true) := HRB
            clear HRB
            go_wp2_with (go_at_call 53; refine HTOT.out.mono ?_; rintro e w3 ⟨rfl, rfl⟩)
            have HL2W := HL2
            have HOW0 := hide (ownImgs_below HO.out HB2.out); have HDW := hide (matT_below HD.out HB2.out); have HUW := hide (matT_below HUL.out HB2.out); have HKW := hide (keep_below HK.out HB2.out)
            have HROW2 := hide (own_below HRO.out HB2.out)
            have HBW0 := hide (HB.out.trans (HB2.out.mono HB.out.size))
            have HWW := hide (show w.heap.size ≤ w2.heap.size by have := HG.out.size; have := HB2.out.size; omega)
            have HFY := hide (fromRows_yes d ms HTK.out HR1.out)
            have HEND : Hid (∀ (u : Value) (w' : World), OwnImgs w' lo u (ms ++ (fromRows r c (L.take (j + 1))).map (d ++ ·)) → w2.grownBy w' v.ownBlock → (u.ownBlock = v.ownBlock ∨ ∀ q, u.ownBlock = some q → w2.heap.size ≤ q) → (∃ (j_1 : Nat) (v : Value), j_1 ≤ nL ∧ Value.int IntKind.i64 ((j : Int) + 1) = Value.int IntKind.i64 j_1 ∧ v = u ∧ OwnImgs w' lo v (ms ++ (fromRows r c (L.take j_1)).map (d ++ ·)) ∧ w.grownBy w' vout.ownBlock ∧ (v.ownBlock = vout.ownBlock ∨ ∀ q, v.ownBlock = some q → w.heap.size ≤ q) ∧ MatT w' w.heap.size (.slice (some ⟨gL, 0, none⟩) nL cL) L ∧ MatT w' lod vd d ∧ Keep w0 w' (.slice xc nc cc) c ∧ Below w0.heap.size w0 w') ∧ nL - (intOf (Value.int IntKind.i64 ((j : Int) + 1))).toNat < nL - (intOf (Value.int IntKind.i64 (j : Int))).toNat) := hide (by
              intro u w' hi hg hwh
              obtain ⟨us, hv, -⟩ := HOW0.out
              refine ⟨⟨j + 1, u, by omega, by go_num, rfl, hi, ?_, ?_, matT_kept HUW.out hv hg (by decide) (by decide), matT_kept HDW.out hv hg (by decide) (by decide), keep_kept HKW.out hv hg (by decide), below_grown0 HBW0.out hv hg H0.out⟩, by simp [intOf]; omega⟩
              · have h1 := grown_trans HG.out (grown_of_below HB2.out vout.ownBlock)
                refine ⟨hg.os.trans h1.os, hg.tape.trans h1.tape, hg.output.trans h1.output, Nat.le_trans h1.size hg.size, fun k hk hne => ?_⟩
                have hkW := h1.size
                rw [hg.block k (by omega) ?_, h1.block k hk hne]
                intro e
                rcases HWH.out with h | h
                · exact hne (by rw [e, h])
                · have := h k e.symm; omega
              · rcases hwh with h | h
                · rcases HWH.out with h' | h'
                  · exact .inl (h.trans h')
                  · exact .inr fun q hq => h' q (by rw [← h]; exact hq)
                · exact .inr fun q hq => Nat.le_trans HWW.out (h q hq))
            obtain ⟨MS, hMS⟩ : ∃ MS, MS = ms ++ (fromRows r c (L.take j)).map (d ++ ·) := ⟨_, rfl⟩
            have HMS : Hid (MS.length + 10 ^ r.length ≤ 1000000) := hide (by
              rw [hMS, List.length_append, List.length_map]
              have h1 := HFL.out (L.take j)
              have h2 : (L.take j).length * 10 ^ r.length ≤ 9 * 10 ^ r.length := Nat.mul_le_mul_right _ (by rw [List.length_take]; omega)
              have h3 := HSZ.out
              omega)
            have HOW : Hid (OwnImgs w2 lo v MS) := hide (by rw [hMS]; exact HOW0.out)
            rw [← hMS] at HFY
            clear hMS HOW0 hx
            obtain ⟨fs, hfs⟩ : ∃ fs : List FactP, fs = [isV v, isV vd, ownM w2.heap.size d, isV (.slice xr nc cr2), oneRow w2.heap.size (.slice xr nc cr2), rowsT w.heap.size (d ++ [row]), isV (.slice (some ⟨gr, or', none⟩) RR cr), isV (.slice at1 (RR - 1) (cr - 1)), isV (.slice a2 nc c2), resF w2 lo v (MS ++ (allL r (subL c row)).map ((d ++ [row]) ++ ·))] := ⟨_, rfl⟩
            have hst : ∀ f ∈ fs, StableP f := by
              rw [hfs]; intro f hf
              simp only [List.mem_cons, List.not_mem_nil, or_false] at hf
              rcases hf with rfl | rfl | rfl | rfl | rfl | rfl | rfl | rfl | rfl | rfl <;> first | exact stable_v _ | exact stable_ownM _ _ | exact stable_oneRow _ _ | exact stable_rowsT _ _ | exact stable_resF _ _ _ _
            subst hfs
            have hS1 : ∀ (wy wz : World), Below w2.heap.size w2.drew wy → Below wy.heap.size wy wz → Below w2.heap.size w2.drew wz := fun wy wz h k => h.trans (k.mono h.size)
            have hS0 : ∀ wy : World, Below w2.heap.size w2.drew wy → Below w2.heap.size w2 wy := fun wy h => (below_drew (Below.refl _ w2)).trans h
            refine wp_region_pen (S := fun wy => Below w2.heap.size w2.drew wy) 9 [isV v, isV vd, ownM w2.heap.size d, isV (.slice xr nc cr2), oneRow w2.heap.size (.slice xr nc cr2), rowsT w.heap.size (d ++ [row]), isV (.slice (some ⟨gr, or', none⟩) RR cr), isV (.slice at1 (RR - 1) (cr - 1)), isV (.slice a2 nc c2), resF w2 lo v (MS ++ (allL r (subL c row)).map ((d ++ [row]) ++ ·))] [(0, v), (1, vd), (2, .slice (some ⟨gr, or', none⟩) RR cr), (10, .slice xr nc cr2), (11, .slice a2 nc c2)] _ _ 10 (by kernel_rfl) (by decide) (by kernel_rfl) rfl rfl (by kernel_rfl) (by kernel_rfl) rfl (by kernel_rfl) ?baseA (Below.refl _ _) ?obA rfl ?finA
            case baseA =>
              intro t v ht
              simp only [List.lookup_cons, List.lookup_nil] at ht
              repeat' split at ht
              all_goals first | (cases ht; done) | (obtain rfl := Option.some.inj ht; rename_i hh; obtain rfl := eq_of_beq hh; rfl)
            case obA =>
              exact ⟨obp_of (obn_of (by kernel_rfl) (obt_move v rfl rfl rfl (srt_b 0 rfl))),
                obp_of (obn_of (by kernel_rfl) (obt_move vd rfl rfl rfl (srt_b 1 rfl))),
                obp_of (obn_of (by kernel_rfl) (obt_call hst [vd] rfl Tryz.func55 (by kernel_rfl) (by kernel_rfl) rfl ⟨srt_j 1 rfl (by kernel_rfl) rfl, trivial⟩ (fun wy hS => by
                    refine (copyRows_any vd d lod wy (matT_below HDW.out (hS0 _ hS)) (by have := HDL.out; omega) (fun q hq => by have := HDR.out q hq; omega)).mono ?_
                    rintro e wz ⟨u, rfl, ho, hb3⟩
                    exact ⟨u, rfl, hS1 _ _ hS hb3, hb3, ⟨wy.heap.size, wz.heap.size, hS.size, Nat.le_refl _, ho⟩⟩))),
                obp_of (obn_of (by kernel_rfl) (obt_move (.slice xr nc cr2) rfl rfl rfl (srt_b 10 rfl))),
                obp_of (obn_of (by kernel_rfl) (obt_make hst rfl fun a wy hS hs => ⟨_, _, exec_build1 (w := wy) rfl (hs _ _ (srt_j 3 rfl (by kernel_rfl) rfl)), hS1 _ _ hS ((Below.refl _ _).alloc (Nat.le_refl _) _), (Below.refl _ _).alloc (Nat.le_refl _) _,
                    ⟨wy.heap.size, rfl, hS.size, by simp, World.ownsRow_lit wy #[.slice xr nc cr2] 1 (Nat.le_refl _) (by decide) rfl⟩⟩)),
                (fun ac wy hS hB hD K hK => by
                    obtain ⟨lo2, hi2, hl2, hh2, hmat⟩ : ownM w2.heap.size d (ac.tmps.getD 62 undef) wy := hD 2 62 rfl (by kernel_rfl)
                    obtain ⟨b2, e64, hb1, hb2, hone⟩ : oneRow w2.heap.size (.slice xr nc cr2) (ac.tmps.getD 64 undef) wy := hD 4 64 rfl (by kernel_rfl)
                    have hrow2 := own_below HROW2.out (hS0 _ hS)
                    obtain ⟨v', wz, hr3, hm3, hg3⟩ := exec_snocMat (ρ := ac.eval) (o := { dst := some 65, op := .call { callee := .builtin .append, args := #[.tmp 62, .tmp 64], argTypes := #[22, 22] }, type := 22, pos := "l05_build.go:73", after := #[{ on := 2, ground := .data }, { on := 4, ground := .data }, { on := 2, ground := .chain }], guard := none }) (w := wy) (row := row) (B0 := w.heap.size) rfl (show ac.eval (.tmp 62) = ac.tmps.getD 62 undef from rfl) e64 (ownMat_mono hmat hl2 (Nat.le_refl _)) hone hrow2 (by have := HWW.out; omega) hS.size (by have := HDL.out; omega)
                    refine ⟨.inl rfl, run_value v' hr3 (hK _ _ (fun _ => hS.grown hg3 hS.size (fun k hk => by obtain ⟨vs, hv, -⟩ := hmat; have := (hv.lt k hk).1; omega)) (fun j hj => ?_) hm3)⟩
                    have hj' := List.all_eq_true.1 (show ((needPL _ 5).all fun j => j == 0 || j == 6 || j == 7 || j == 8) = true by kernel_rfl) j (needPL_of hj)
                    simp only [Bool.or_eq_true, beq_iff_eq] at hj'
                    rcases hj' with ((rfl | rfl) | rfl) | rfl <;> exact fun u h => h),
                obp_of (obn_of (by kernel_rfl) (obt_move (.slice (some ⟨gr, or', none⟩) RR cr) rfl rfl rfl (srt_b 2 rfl))),
                obp_of (obn_of (by kernel_rfl) (obt_two (.slice at1 (RR - 1) (cr - 1)) rfl rfl (srt_j 6 rfl (by kernel_rfl) rfl) (srt_c (v := .int .i64 1)) (fun ρ wy hS hx hy => by have hat := HAT.out; go_simp; intro h; omega))),
                obp_of (obn_of (by kernel_rfl) (obt_move (.slice a2 nc c2) rfl rfl rfl (srt_b 11 rfl))),
                fun ac wy hS hB hD K hK => ⟨.inl rfl, run_call rfl Tryz.func36 (by kernel_rfl) (by kernel_rfl) #[v, ac.tmps.getD 65 undef, .slice at1 (RR - 1) (cr - 1), .slice a2 nc c2] (by
                      have h60 : ac.tmps.getD 60 undef = v := hD 0 60 rfl (by kernel_rfl)
                      have h67 : ac.tmps.getD 67 undef = .slice at1 (RR - 1) (cr - 1) := hD 7 67 rfl (by kernel_rfl)
                      have h68 : ac.tmps.getD 68 undef = .slice a2 nc c2 := hD 8 68 rfl (by kernel_rfl)
                      simp only [List.map_toArray, List.map_cons, List.map_nil]
                      rw [show ac.eval (.tmp 60) = ac.tmps.getD 60 undef from rfl, show ac.eval (.tmp 67) = ac.tmps.getD 67 undef from rfl, show ac.eval (.tmp 68) = ac.tmps.getD 68 undef from rfl, h60, h67, h68]; rfl) (by
                      have h65 : rowsT w.heap.size (d ++ [row]) (ac.tmps.getD 65 undef) wy := hD 5 65 rfl (by kernel_rfl)
                      have hbw := hS0 _ hS
                      refine (HIH.out w0 wy lo w.heap.size (subL c row) (d ++ [row]) MS v _ _ _ (ownImgs_below HOW.out hbw) h65 HTAIL.out (.inr ⟨wr.heap.size, by rw [subL_len, ← HNC.out]; exact own_below HL2W.out hbw⟩) (HBW0.out.trans (hbw.mono HBW0.out.size)) H0.out (by have := HWW.out; have := hbw.size; omega) (by rw [List.length_append]; exact HDL.out) (fun q hq => by
                        rcases List.mem_append.1 hq with h | h
                        · exact HDR.out q h
                        · obtain rfl : q = row := by simpa using h
                          rw [HRJ.out.1]; exact HC.out.2) HRS.out (by rw [subL_len]; exact HC.out) (fun x hx => by
                        have := HSM.out.2 x hx
                        rw [List.getD_eq_getElem?_getD, List.getElem?_eq_getElem hx]; exact this) HMS.out).mono ?_
                      rintro e wz ⟨u, rfl, hi3, hg3, hwh3⟩
                      refine ⟨u, rfl, hK _ _ (fun hne => absurd rfl hne) (fun j hj => absurd (needPL_of hj) (by rw [show needPL _ 9 = [] by kernel_rfl]; simp)) ⟨hi3, grown_trans (grown_of_below hbw _) hg3, ?_⟩⟩
                      rcases hwh3 with h | h
                      · exact .inl h
                      · exact .inr fun q hq => Nat.le_trans hbw.size (h q hq))⟩,
                trivial⟩
            case finA =>
              intro a' w' h1 h2 h3 h4 K hK
              obtain ⟨hi, hg, hwh⟩ : resF w2 lo v (MS ++ (allL r (subL c row)).map ((d ++ [row]) ++ ·)) (a'.tmps.getD 69 undef) w' := h4 9 69 rfl (by decide) (by kernel_rfl)
              obtain ⟨v69, hv69⟩ : ∃ v69, a'.tmps.getD 69 undef = v69 := ⟨_, rfl⟩
              rw [hv69] at hi hwh
              refine tail_assign rfl (show a'.eval (.tmp 69) = v69 from hv69) ?_ K hK
              have ha : a' = ⟨List.toArray [a'.tmps.getD 0 undef, vd, .slice (some ⟨gr, or', none⟩) RR cr, .slice xc nc cc, undef, undef, undef, undef, .slice none 0 0, undef, a'.tmps.getD 10 undef, a'.tmps.getD 11 undef, a'.tmps.getD 12 undef, .slice (some ⟨gr, or', none⟩) RR cr, .int .i64 RR, .bool false, undef, undef, undef, undef, undef, .slice xc nc cc, .int .i64 nc, .slice (some ⟨gr, or', none⟩) RR cr, .pointer (some ⟨gr, or', none⟩), .int .i64 a, .slice (some ⟨gL, 0, none⟩) nL cL, .int .i64 nL, .int .i64 j, a'.tmps.getD 29 undef, a'.tmps.getD 30 undef, a'.tmps.getD 31 undef, a'.tmps.getD 32 undef, a'.tmps.getD 33 undef, a'.tmps.getD 34 undef, a'.tmps.getD 35 undef, a'.tmps.getD 36 undef, a'.tmps.getD 37 undef, a'.tmps.getD 38 undef, a'.tmps.getD 39 undef, a'.tmps.getD 40 undef, a'.tmps.getD 41 undef, a'.tmps.getD 42 undef, a'.tmps.getD 43 undef, a'.tmps.getD 44 undef, a'.tmps.getD 45 undef, a'.tmps.getD 46 undef, a'.tmps.getD 47 undef, a'.tmps.getD 48 undef, a'.tmps.getD 49 undef, a'.tmps.getD 50 undef, a'.tmps.getD 51 undef, a'.tmps.getD 52 undef, a'.tmps.getD 53 undef, a'.tmps.getD 54 undef, a'.tmps.getD 55 undef, a'.tmps.getD 56 undef, a'.tmps.getD 57 undef, a'.tmps.getD 58 undef, a'.tmps.getD 59 undef, a'.tmps.getD 60 undef, a'.tmps.getD 61 undef, a'.tmps.getD 62 undef, a'.tmps.getD 63 undef, a'.tmps.getD 64 undef, a'.tmps.getD 65 undef, a'.tmps.getD 66 undef, a'.tmps.getD 67 undef, a'.tmps.getD 68 undef, a'.tmps.getD 69 undef, a'.tmps.getD 70 undef, undef], []⟩ := frame_eq _ h1 h2 ⟨rfl, h3 1 (by kernel_rfl), h3 2 (by kernel_rfl), h3 3 (by kernel_rfl), h3 4 (by kernel_rfl), h3 5 (by kernel_rfl), h3 6 (by kernel_rfl), h3 7 (by kernel_rfl), h3 8 (by kernel_rfl), h3 9 (by kernel_rfl), rfl, rfl, rfl, h3 13 (by kernel_rfl), h3 14 (by kernel_rfl), h3 15 (by kernel_rfl), h3 16 (by kernel_rfl), h3 17 (by kernel_rfl), h3 18 (by kernel_rfl), h3 19 (by kernel_rfl), h3 20 (by kernel_rfl), h3 21 (by kernel_rfl), h3 22 (by kernel_rfl), h3 23 (by kernel_rfl), h3 24 (by kernel_rfl), h3 25 (by kernel_rfl), h3 26 (by kernel_rfl), h3 27 (by kernel_rfl), h3 28 (by kernel_rfl), rfl, rfl, rfl, rfl, rfl, rfl, rfl, rfl, rfl, rfl, rfl, rfl, rfl, rfl, rfl, rfl, rfl, rfl, rfl, rfl, rfl, rfl, rfl, rfl, rfl, rfl, rfl, rfl, rfl, rfl, rfl, rfl, rfl, rfl, rfl, rfl, rfl, rfl, rfl, rfl, rfl, rfl, h3 71 (by kernel_rfl), trivial⟩
              rw [ha]
              rw [← HFY.out] at hi
              have HI := hide hi; have HG3 := hide hg; have HWH3 := hide hwh
              clear hst h1 h2 h3 h4 hK hS1 hS0 ha hv69 hi hg hwh
              generalize a'.tmps.getD 0 undef = p0
              generalize a'.tmps.getD 10 undef = p10
              generalize a'.tmps.getD 11 undef = p11
              generalize a'.tmps.getD 12 undef = p12
              generalize a'.tmps.getD 29 undef = p29
              generalize a'.tmps.getD 30 undef = p30
              generalize a'.tmps.getD 31 undef = p31
              generalize a'.tmps.getD 32 undef = p32
              generalize a'.tmps.getD 33 undef = p33
              generalize a'.tmps.getD 34 undef = p34
              generalize a'.tmps.getD 35 undef = p35
              generalize a'.tmps.getD 36 undef = p36
              generalize a'.tmps.getD 37 undef = p37
              generalize a'.tmps.getD 38 undef = p38
              generalize a'.tmps.getD 39 undef = p39
              generalize a'.tmps.getD 40 undef = p40
              generalize a'.tmps.getD 41 undef = p41
              generalize a'.tmps.getD 42 undef = p42
              generalize a'.tmps.getD 43 undef = p43
              generalize a'.tmps.getD 44 undef = p44
              generalize a'.tmps.getD 45 undef = p45
              generalize a'.tmps.getD 46 undef = p46
              generalize a'.tmps.getD 47 undef = p47
              generalize a'.tmps.getD 48 undef = p48
              generalize a'.tmps.getD 49 undef = p49
              generalize a'.tmps.getD 50 undef = p50
              generalize a'.tmps.getD 51 undef = p51
              generalize a'.tmps.getD 52 undef = p52
              generalize a'.tmps.getD 53 undef = p53
              generalize a'.tmps.getD 54 undef = p54
              generalize a'.tmps.getD 55 undef = p55
              generalize a'.tmps.getD 56 undef = p56
              generalize a'.tmps.getD 57 undef = p57
              generalize a'.tmps.getD 58 undef = p58
              generalize a'.tmps.getD 59 undef = p59
              generalize a'.tmps.getD 60 undef = p60
              generalize a'.tmps.getD 61 undef = p61
              generalize a'.tmps.getD 62 undef = p62
              generalize a'.tmps.getD 63 undef = p63
              generalize a'.tmps.getD 64 undef = p64
              generalize a'.tmps.getD 65 undef = p65
              generalize a'.tmps.getD 66 undef = p66
              generalize a'.tmps.getD 67 undef = p67
              generalize a'.tmps.getD 68 undef = p68
              generalize a'.tmps.getD 69 undef = p69
              generalize a'.tmps.getD 70 undef = p70
              go_wp2
              exact HEND.out v69 w' HI.out HG3.out HWH3.out
          · have hz1 : (S0 == 0) = false := beq_eq_false_iff_ne.2 hz
            rw [hz1] at HRB
            have HSTEP := hide (fromRows_no HTK.out HRB.out)
            go_wp2_with (go_at_call 53; refine HTOT.out.mono ?_; rintro e w3 ⟨rfl, rfl⟩)
            refine ⟨⟨j + 1, v, by omega, by go_num, rfl, by rw [HSTEP.out]; exact ownImgs_below HO.out HB2.out, grown_trans HG.out (grown_of_below HB2.out _), HWH.out, matT_below HUL.out HB2.out, matT_below HD.out HB2.out, keep_below HK.out HB2.out, HBW.out⟩, by simp [intOf]; omega⟩
        · have HRB : Hid (restB r (subL c row) = existsOf r (subL c row)) := hide (by obtain ⟨b, l, rfl⟩ := hrc; exact rest_cons)
          have HEX := hide (specExists_any (.slice at1 (RR - 1) (cr - 1)) (.slice a2 nc c2) r (subL c row) w2 (rowC_below HTAIL.out HBW.out).1 HLR.out)
          rw [← HRB.out] at HEX
          have hcr1 : cr ≠ 1 := by omega
          have hat := HAT.out
          rw [if_neg hcr1] at hat
          rw [hat] at HEX
          have hne : ((RR : Int) == 1) = false := beq_eq_false_iff_ne.2 (by omega)
          have hgt : (1 : Int) < RR := by omega
          clear HRB hrc hat
          cases hbb : restB r (subL c row) with
          | false =>
            rw [hbb] at HEX
            have HSTEP := hide (fromRows_no HTK.out hbb)
            go_wp2_with (go_at_call 35; refine HEX.out.mono ?_; rintro e w3 ⟨rfl, hb3⟩; have HB3 := hide (HB2.out.trans (hb3.mono HB2.out.size)); clear hb3)
            refine ⟨⟨j + 1, v, by omega, by go_num, rfl, by rw [HSTEP.out]; exact ownImgs_below HO.out HB3.out, grown_trans HG.out (grown_of_below HB3.out _), HWH.out, matT_below HUL.out HB3.out, matT_below HD.out HB3.out, keep_below HK.out HB3.out, HB.out.trans (HB3.out.mono HB.out.size)⟩, by simp [intOf]; omega⟩
          | true =>
            rw [hbb] at HEX
            go_wp2_with (go_at_call 35; refine HEX.out.mono ?_; rintro e w3 ⟨rfl, hb3⟩; have HB3 := hide (HB2.out.trans (hb3.mono HB2.out.size)); have HL2W := hide (own_below HL2.out hb3); clear hb3)
            have HOW0 := hide (ownImgs_below HO.out HB3.out); have HDW := hide (matT_below HD.out HB3.out); have HUW := hide (matT_below HUL.out HB3.out); have HKW := hide (keep_below HK.out HB3.out)
            have HROW2 := hide (own_below HRO.out HB3.out)
            have HBW0 := hide (HB.out.trans (HB3.out.mono HB.out.size))
            have HWW := hide (show w.heap.size ≤ w3.heap.size by have := HG.out.size; have := HB3.out.size; omega)
            have HFY := hide (fromRows_yes d ms HTK.out hbb)
            have HEND : Hid (∀ (u : Value) (w' : World), OwnImgs w' lo u (ms ++ (fromRows r c (L.take (j + 1))).map (d ++ ·)) → w3.grownBy w' v.ownBlock → (u.ownBlock = v.ownBlock ∨ ∀ q, u.ownBlock = some q → w3.heap.size ≤ q) → (∃ (j_1 : Nat) (v : Value), j_1 ≤ nL ∧ Value.int IntKind.i64 ((j : Int) + 1) = Value.int IntKind.i64 j_1 ∧ v = u ∧ OwnImgs w' lo v (ms ++ (fromRows r c (L.take j_1)).map (d ++ ·)) ∧ w.grownBy w' vout.ownBlock ∧ (v.ownBlock = vout.ownBlock ∨ ∀ q, v.ownBlock = some q → w.heap.size ≤ q) ∧ MatT w' w.heap.size (.slice (some ⟨gL, 0, none⟩) nL cL) L ∧ MatT w' lod vd d ∧ Keep w0 w' (.slice xc nc cc) c ∧ Below w0.heap.size w0 w') ∧ nL - (intOf (Value.int IntKind.i64 ((j : Int) + 1))).toNat < nL - (intOf (Value.int IntKind.i64 (j : Int))).toNat) := hide (by
              intro u w' hi hg hwh
              obtain ⟨us, hv, -⟩ := HOW0.out
              refine ⟨⟨j + 1, u, by omega, by go_num, rfl, hi, ?_, ?_, matT_kept HUW.out hv hg (by decide) (by decide), matT_kept HDW.out hv hg (by decide) (by decide), keep_kept HKW.out hv hg (by decide), below_grown0 HBW0.out hv hg H0.out⟩, by simp [intOf]; omega⟩
              · have h1 := grown_trans HG.out (grown_of_below HB3.out vout.ownBlock)
                refine ⟨hg.os.trans h1.os, hg.tape.trans h1.tape, hg.output.trans h1.output, Nat.le_trans h1.size hg.size, fun k hk hne => ?_⟩
                have hkW := h1.size
                rw [hg.block k (by omega) ?_, h1.block k hk hne]
                intro e
                rcases HWH.out with h | h
                · exact hne (by rw [e, h])
                · have := h k e.symm; omega
              · rcases hwh with h | h
                · rcases HWH.out with h' | h'
                  · exact .inl (h.trans h')
                  · exact .inr fun q hq => h' q (by rw [← h]; exact hq)
                · exact .inr fun q hq => Nat.le_trans HWW.out (h q hq))
            obtain ⟨MS, hMS⟩ : ∃ MS, MS = ms ++ (fromRows r c (L.take j)).map (d ++ ·) := ⟨_, rfl⟩
            have HMS : Hid (MS.length + 10 ^ r.length ≤ 1000000) := hide (by
              rw [hMS, List.length_append, List.length_map]
              have h1 := HFL.out (L.take j)
              have h2 : (L.take j).length * 10 ^ r.length ≤ 9 * 10 ^ r.length := Nat.mul_le_mul_right _ (by rw [List.length_take]; omega)
              have h3 := HSZ.out
              omega)
            have HOW : Hid (OwnImgs w3 lo v MS) := hide (by rw [hMS]; exact HOW0.out)
            rw [← hMS] at HFY
            clear hMS HOW0 hx
            obtain ⟨fs, hfs⟩ : ∃ fs : List FactP, fs = [isV v, isV vd, ownM w3.heap.size d, isV (.slice xr nc cr2), oneRow w3.heap.size (.slice xr nc cr2), rowsT w.heap.size (d ++ [row]), isV (.slice (some ⟨gr, or', none⟩) RR cr), isV (.slice at1 (RR - 1) (cr - 1)), isV (.slice a2 nc c2), resF w3 lo v (MS ++ (allL r (subL c row)).map ((d ++ [row]) ++ ·))] := ⟨_, rfl⟩
            have hst : ∀ f ∈ fs, StableP f := by
              rw [hfs]; intro f hf
              simp only [List.mem_cons, List.not_mem_nil, or_false] at hf
              rcases hf with rfl | rfl | rfl | rfl | rfl | rfl | rfl | rfl | rfl | rfl <;> first | exact stable_v _ | exact stable_ownM _ _ | exact stable_oneRow _ _ | exact stable_rowsT _ _ | exact stable_resF _ _ _ _
            subst hfs
            have hS1 : ∀ (wy wz : World), Below w3.heap.size w3.drew wy → Below wy.heap.size wy wz → Below w3.heap.size w3.drew wz := fun wy wz h k => h.trans (k.mono h.size)
            have hS0 : ∀ wy : World, Below w3.heap.size w3.drew wy → Below w3.heap.size w3 wy := fun wy h => (below_drew (Below.refl _ w3)).trans h
            refine wp_region_pen (S := fun wy => Below w3.heap.size w3.drew wy) 9 [isV v, isV vd, ownM w3.heap.size d, isV (.slice xr nc cr2), oneRow w3.heap.size (.slice xr nc cr2), rowsT w.heap.size (d ++ [row]), isV (.slice (some ⟨gr, or', none⟩) RR cr), isV (.slice at1 (RR - 1) (cr - 1)), isV (.slice a2 nc c2), resF w3 lo v (MS ++ (allL r (subL c row)).map ((d ++ [row]) ++ ·))] [(0, v), (1, vd), (2, .slice (some ⟨gr, or', none⟩) RR cr), (10, .slice xr nc cr2), (11, .slice a2 nc c2)] _ _ 10 (by kernel_rfl) (by decide) (by kernel_rfl) rfl rfl (by kernel_rfl) (by kernel_rfl) rfl (by kernel_rfl) ?baseB (Below.refl _ _) ?obB rfl ?finB
            case baseB =>
              intro t v ht
              simp only [List.lookup_cons, List.lookup_nil] at ht
              repeat' split at ht
              all_goals first | (cases ht; done) | (obtain rfl := Option.some.inj ht; rename_i hh; obtain rfl := eq_of_beq hh; rfl)
            case obB =>
              exact ⟨obp_of (obn_of (by kernel_rfl) (obt_move v rfl rfl rfl (srt_b 0 rfl))),
                obp_of (obn_of (by kernel_rfl) (obt_move vd rfl rfl rfl (srt_b 1 rfl))),
                obp_of (obn_of (by kernel_rfl) (obt_call hst [vd] rfl Tryz.func55 (by kernel_rfl) (by kernel_rfl) rfl ⟨srt_j 1 rfl (by kernel_rfl) rfl, trivial⟩ (fun wy hS => by
                    refine (copyRows_any vd d lod wy (matT_below HDW.out (hS0 _ hS)) (by have := HDL.out; omega) (fun q hq => by have := HDR.out q hq; omega)).mono ?_
                    rintro e wz ⟨u, rfl, ho, hb3⟩
                    exact ⟨u, rfl, hS1 _ _ hS hb3, hb3, ⟨wy.heap.size, wz.heap.size, hS.size, Nat.le_refl _, ho⟩⟩))),
                obp_of (obn_of (by kernel_rfl) (obt_move (.slice xr nc cr2) rfl rfl rfl (srt_b 10 rfl))),
                obp_of (obn_of (by kernel_rfl) (obt_make hst rfl fun a wy hS hs => ⟨_, _, exec_build1 (w := wy) rfl (hs _ _ (srt_j 3 rfl (by kernel_rfl) rfl)), hS1 _ _ hS ((Below.refl _ _).alloc (Nat.le_refl _) _), (Below.refl _ _).alloc (Nat.le_refl _) _,
                    ⟨wy.heap.size, rfl, hS.size, by simp, World.ownsRow_lit wy #[.slice xr nc cr2] 1 (Nat.le_refl _) (by decide) rfl⟩⟩)),
                (fun ac wy hS hB hD K hK => by
                    obtain ⟨lo2, hi2, hl2, hh2, hmat⟩ : ownM w3.heap.size d (ac.tmps.getD 62 undef) wy := hD 2 62 rfl (by kernel_rfl)
                    obtain ⟨b2, e64, hb1, hb2, hone⟩ : oneRow w3.heap.size (.slice xr nc cr2) (ac.tmps.getD 64 undef) wy := hD 4 64 rfl (by kernel_rfl)
                    have hrow2 := own_below HROW2.out (hS0 _ hS)
                    obtain ⟨v', wz, hr3, hm3, hg3⟩ := exec_snocMat (ρ := ac.eval) (o := { dst := some 65, op := .call { callee := .builtin .append, args := #[.tmp 62, .tmp 64], argTypes := #[22, 22] }, type := 22, pos := "l05_build.go:73", after := #[{ on := 2, ground := .data }, { on := 4, ground := .data }, { on := 2, ground := .chain }], guard := none }) (w := wy) (row := row) (B0 := w.heap.size) rfl (show ac.eval (.tmp 62) = ac.tmps.getD 62 undef from rfl) e64 (ownMat_mono hmat hl2 (Nat.le_refl _)) hone hrow2 (by have := HWW.out; omega) hS.size (by have := HDL.out; omega)
                    refine ⟨.inl rfl, run_value v' hr3 (hK _ _ (fun _ => hS.grown hg3 hS.size (fun k hk => by obtain ⟨vs, hv, -⟩ := hmat; have := (hv.lt k hk).1; omega)) (fun j hj => ?_) hm3)⟩
                    have hj' := List.all_eq_true.1 (show ((needPL _ 5).all fun j => j == 0 || j == 6 || j == 7 || j == 8) = true by kernel_rfl) j (needPL_of hj)
                    simp only [Bool.or_eq_true, beq_iff_eq] at hj'
                    rcases hj' with ((rfl | rfl) | rfl) | rfl <;> exact fun u h => h),
                obp_of (obn_of (by kernel_rfl) (obt_move (.slice (some ⟨gr, or', none⟩) RR cr) rfl rfl rfl (srt_b 2 rfl))),
                obp_of (obn_of (by kernel_rfl) (obt_two (.slice at1 (RR - 1) (cr - 1)) rfl rfl (srt_j 6 rfl (by kernel_rfl) rfl) (srt_c (v := .int .i64 1)) (fun ρ wy hS hx hy => by have hat := HAT.out; go_simp; intro h; omega))),
                obp_of (obn_of (by kernel_rfl) (obt_move (.slice a2 nc c2) rfl rfl rfl (srt_b 11 rfl))),
                fun ac wy hS hB hD K hK => ⟨.inl rfl, run_call rfl Tryz.func36 (by kernel_rfl) (by kernel_rfl) #[v, ac.tmps.getD 65 undef, .slice at1 (RR - 1) (cr - 1), .slice a2 nc c2] (by
                      have h60 : ac.tmps.getD 60 undef = v := hD 0 60 rfl (by kernel_rfl)
                      have h67 : ac.tmps.getD 67 undef = .slice at1 (RR - 1) (cr - 1) := hD 7 67 rfl (by kernel_rfl)
                      have h68 : ac.tmps.getD 68 undef = .slice a2 nc c2 := hD 8 68 rfl (by kernel_rfl)
                      simp only [List.map_toArray, List.map_cons, List.map_nil]
                      rw [show ac.eval (.tmp 60) = ac.tmps.getD 60 undef from rfl, show ac.eval (.tmp 67) = ac.tmps.getD 67 undef from rfl, show ac.eval (.tmp 68) = ac.tmps.getD 68 undef from rfl, h60, h67, h68]; rfl) (by
                      have h65 : rowsT w.heap.size (d ++ [row]) (ac.tmps.getD 65 undef) wy := hD 5 65 rfl (by kernel_rfl)
                      have hbw := hS0 _ hS
                      refine (HIH.out w0 wy lo w.heap.size (subL c row) (d ++ [row]) MS v _ _ _ (ownImgs_below HOW.out hbw) h65 HTAIL.out (.inr ⟨wr.heap.size, by rw [subL_len, ← HNC.out]; exact own_below HL2W.out hbw⟩) (HBW0.out.trans (hbw.mono HBW0.out.size)) H0.out (by have := HWW.out; have := hbw.size; omega) (by rw [List.length_append]; exact HDL.out) (fun q hq => by
                        rcases List.mem_append.1 hq with h | h
                        · exact HDR.out q h
                        · obtain rfl : q = row := by simpa using h
                          rw [HRJ.out.1]; exact HC.out.2) HRS.out (by rw [subL_len]; exact HC.out) (fun x hx => by
                        have := HSM.out.2 x hx
                        rw [List.getD_eq_getElem?_getD, List.getElem?_eq_getElem hx]; exact this) HMS.out).mono ?_
                      rintro e wz ⟨u, rfl, hi3, hg3, hwh3⟩
                      refine ⟨u, rfl, hK _ _ (fun hne => absurd rfl hne) (fun j hj => absurd (needPL_of hj) (by rw [show needPL _ 9 = [] by kernel_rfl]; simp)) ⟨hi3, grown_trans (grown_of_below hbw _) hg3, ?_⟩⟩
                      rcases hwh3 with h | h
                      · exact .inl h
                      · exact .inr fun q hq => Nat.le_trans hbw.size (h q hq))⟩,
                trivial⟩
            case finB =>
              intro a' w' h1 h2 h3 h4 K hK
              obtain ⟨hi, hg, hwh⟩ : resF w3 lo v (MS ++ (allL r (subL c row)).map ((d ++ [row]) ++ ·)) (a'.tmps.getD 69 undef) w' := h4 9 69 rfl (by decide) (by kernel_rfl)
              obtain ⟨v69, hv69⟩ : ∃ v69, a'.tmps.getD 69 undef = v69 := ⟨_, rfl⟩
              rw [hv69] at hi hwh
              refine tail_assign rfl (show a'.eval (.tmp 69) = v69 from hv69) ?_ K hK
              have ha : a' = ⟨List.toArray [a'.tmps.getD 0 undef, vd, .slice (some ⟨gr, or', none⟩) RR cr, .slice xc nc cc, undef, undef, undef, undef, .slice none 0 0, undef, a'.tmps.getD 10 undef, a'.tmps.getD 11 undef, a'.tmps.getD 12 undef, .slice (some ⟨gr, or', none⟩) RR cr, .int .i64 RR, .bool false, undef, undef, undef, undef, undef, .slice xc nc cc, .int .i64 nc, .slice (some ⟨gr, or', none⟩) RR cr, .pointer (some ⟨gr, or', none⟩), .int .i64 a, .slice (some ⟨gL, 0, none⟩) nL cL, .int .i64 nL, .int .i64 j, a'.tmps.getD 29 undef, a'.tmps.getD 30 undef, a'.tmps.getD 31 undef, a'.tmps.getD 32 undef, a'.tmps.getD 33 undef, a'.tmps.getD 34 undef, a'.tmps.getD 35 undef, a'.tmps.getD 36 undef, a'.tmps.getD 37 undef, a'.tmps.getD 38 undef, a'.tmps.getD 39 undef, a'.tmps.getD 40 undef, a'.tmps.getD 41 undef, a'.tmps.getD 42 undef, a'.tmps.getD 43 undef, a'.tmps.getD 44 undef, a'.tmps.getD 45 undef, a'.tmps.getD 46 undef, a'.tmps.getD 47 undef, a'.tmps.getD 48 undef, a'.tmps.getD 49 undef, a'.tmps.getD 50 undef, a'.tmps.getD 51 undef, a'.tmps.getD 52 undef, a'.tmps.getD 53 undef, a'.tmps.getD 54 undef, a'.tmps.getD 55 undef, a'.tmps.getD 56 undef, a'.tmps.getD 57 undef, a'.tmps.getD 58 undef, a'.tmps.getD 59 undef, a'.tmps.getD 60 undef, a'.tmps.getD 61 undef, a'.tmps.getD 62 undef, a'.tmps.getD 63 undef, a'.tmps.getD 64 undef, a'.tmps.getD 65 undef, a'.tmps.getD 66 undef, a'.tmps.getD 67 undef, a'.tmps.getD 68 undef, a'.tmps.getD 69 undef, a'.tmps.getD 70 undef, undef], []⟩ := frame_eq _ h1 h2 ⟨rfl, h3 1 (by kernel_rfl), h3 2 (by kernel_rfl), h3 3 (by kernel_rfl), h3 4 (by kernel_rfl), h3 5 (by kernel_rfl), h3 6 (by kernel_rfl), h3 7 (by kernel_rfl), h3 8 (by kernel_rfl), h3 9 (by kernel_rfl), rfl, rfl, rfl, h3 13 (by kernel_rfl), h3 14 (by kernel_rfl), h3 15 (by kernel_rfl), h3 16 (by kernel_rfl), h3 17 (by kernel_rfl), h3 18 (by kernel_rfl), h3 19 (by kernel_rfl), h3 20 (by kernel_rfl), h3 21 (by kernel_rfl), h3 22 (by kernel_rfl), h3 23 (by kernel_rfl), h3 24 (by kernel_rfl), h3 25 (by kernel_rfl), h3 26 (by kernel_rfl), h3 27 (by kernel_rfl), h3 28 (by kernel_rfl), rfl, rfl, rfl, rfl, rfl, rfl, rfl, rfl, rfl, rfl, rfl, rfl, rfl, rfl, rfl, rfl, rfl, rfl, rfl, rfl, rfl, rfl, rfl, rfl, rfl, rfl, rfl, rfl, rfl, rfl, rfl, rfl, rfl, rfl, rfl, rfl, rfl, rfl, rfl, rfl, rfl, rfl, h3 71 (by kernel_rfl), trivial⟩
              rw [ha]
              rw [← HFY.out] at hi
              have HI := hide hi; have HG3 := hide hg; have HWH3 := hide hwh
              clear hst h1 h2 h3 h4 hK hS1 hS0 ha hv69 hi hg hwh
              generalize a'.tmps.getD 0 undef = p0
              generalize a'.tmps.getD 10 undef = p10
              generalize a'.tmps.getD 11 undef = p11
              generalize a'.tmps.getD 12 undef = p12
              generalize a'.tmps.getD 29 undef = p29
              generalize a'.tmps.getD 30 undef = p30
              generalize a'.tmps.getD 31 undef = p31
              generalize a'.tmps.getD 32 undef = p32
              generalize a'.tmps.getD 33 undef = p33
              generalize a'.tmps.getD 34 undef = p34
              generalize a'.tmps.getD 35 undef = p35
              generalize a'.tmps.getD 36 undef = p36
              generalize a'.tmps.getD 37 undef = p37
              generalize a'.tmps.getD 38 undef = p38
              generalize a'.tmps.getD 39 undef = p39
              generalize a'.tmps.getD 40 undef = p40
              generalize a'.tmps.getD 41 undef = p41
              generalize a'.tmps.getD 42 undef = p42
              generalize a'.tmps.getD 43 undef = p43
              generalize a'.tmps.getD 44 undef = p44
              generalize a'.tmps.getD 45 undef = p45
              generalize a'.tmps.getD 46 undef = p46
              generalize a'.tmps.getD 47 undef = p47
              generalize a'.tmps.getD 48 undef = p48
              generalize a'.tmps.getD 49 undef = p49
              generalize a'.tmps.getD 50 undef = p50
              generalize a'.tmps.getD 51 undef = p51
              generalize a'.tmps.getD 52 undef = p52
              generalize a'.tmps.getD 53 undef = p53
              generalize a'.tmps.getD 54 undef = p54
              generalize a'.tmps.getD 55 undef = p55
              generalize a'.tmps.getD 56 undef = p56
              generalize a'.tmps.getD 57 undef = p57
              generalize a'.tmps.getD 58 undef = p58
              generalize a'.tmps.getD 59 undef = p59
              generalize a'.tmps.getD 60 undef = p60
              generalize a'.tmps.getD 61 undef = p61
              generalize a'.tmps.getD 62 undef = p62
              generalize a'.tmps.getD 63 undef = p63
              generalize a'.tmps.getD 64 undef = p64
              generalize a'.tmps.getD 65 undef = p65
              generalize a'.tmps.getD 66 undef = p66
              generalize a'.tmps.getD 67 undef = p67
              generalize a'.tmps.getD 68 undef = p68
              generalize a'.tmps.getD 69 undef = p69
              generalize a'.tmps.getD 70 undef = p70
              go_wp2
              exact HEND.out v69 w' HI.out HG3.out HWH3.out
    · obtain rfl : j = nL := by omega
      have HFIN : Hid (L.take j = L) := hide (by rw [HNL.out, List.take_length])
      rw [HFIN.out] at HO
      go_wp2
      go_ret
      exact ⟨_, rfl, HO.out, HG.out, HWH.out⟩
end Go.Proofs.YtjnnoabaepmcnaaGreat
/-
  leastRow, LeastImage of the program.
-/
namespace Go.Proofs.YtjnnoabaepmcnaaGreat
open Go.RowKit Go.Shelf Mx

theorem mid_img {r c : List Int} (hr : r.length ≤ 5) (hc : c.length ≤ 5) (h : HasImg r c) : Mid1000 c := by
  obtain ⟨m, hm⟩ := h
  refine ⟨hc, fun x hx => ?_⟩
  have h1 := hm.col x hx
  have h2 := cell_le (f := fun y => m y x) (n := r.length) fun y hy => hm.cell y x hy hx
  omega
theorem firstRows_head {a : Int} {r c : List Int} (hne : firstRows a r c ≠ []) : ∃ l, firstRows a r c = leastCh (a :: r) c :: l := by
  show ∃ q, firstRows a r c = (firstRows a r c).headD [] :: q
  cases e : firstRows a r c with
  | nil => exact absurd e hne
  | cons x q => exact ⟨q, rfl⟩
/-- What holds while the least image is constructed. -/
def InvL (r c : List Int) : Prop := r.length ≤ 5 ∧ (1 ≤ c.length ∧ c.length ≤ 5) ∧ HasImg r c
theorem invL_start {r c : List Int} (h : existsOf r c = true) : InvL r c := by
  obtain ⟨hr, hc, -, -, -⟩ := sumsOk_yes (existsOf_sums h)
  exact ⟨hr.2, hc, img_of_exists h⟩
/-- What CanPlace answers. -/
def placeOf (r c : List Int) (y x v : Int) : Bool := existsOf r c && decide (0 ≤ y ∧ y < r.length ∧ 0 ≤ x ∧ x < c.length) && (rowsAtL r c y.toNat).any fun row => row.getD x.toNat 0 == v
end Go.Proofs.YtjnnoabaepmcnaaGreat
/-
  CanPlace of the program.
-/
namespace Go.Proofs.YtjnnoabaepmcnaaGreat
open Go.RowKit Go.Shelf Mx

theorem place_out {r c : List Int} {y x v : Int} (h : ¬ (0 ≤ y ∧ y < r.length ∧ 0 ≤ x ∧ x < c.length)) : placeOf r c y x v = false := by
  unfold placeOf
  rw [decide_eq_false h]; simp
theorem place_no {r c : List Int} {y x v : Int} (h : existsOf r c = false) : placeOf r c y x v = false := by unfold placeOf; rw [h]; rfl
theorem place_in {r c : List Int} {y x : Nat} {v : Int} (h : existsOf r c = true) (hy : y < r.length) (hx : x < c.length) : placeOf r c y x v = (rowsAtL r c y).any fun row => row.getD x 0 == v := by
  unfold placeOf
  rw [h, decide_eq_true (by omega)]; simp
end Go.Proofs.YtjnnoabaepmcnaaGreat
/-
  LeastImage and CanPlace of the model.
-/
namespace Go.Proofs.YtjnnoabaepmcnaaGreat
open Go.RowKit

theorem specAll_any : ∀ (r : List Int) (w0 w : World) (lo lod : Nat) (c : List Int) (d : List (List Int)) (ms : List (List (List Int))) (vout vd vr vc : Value), OwnImgs w lo vout ms → MatT w lod vd d → RowC w0 vr r → Keep w0 w vc c → Below w0.heap.size w0 w → w0.heap.size ≤ lo → lo ≤ w.heap.size → d.length + r.length ≤ 5 → (∀ q ∈ d, q.length ≤ 5) → (∀ x ∈ r, 0 ≤ x ∧ x ≤ 5) → (1 ≤ c.length ∧ c.length ≤ 5) → (∀ x, x < c.length → 0 ≤ c.getD x 0 ∧ c.getD x 0 ≤ 5) → ms.length + 10 ^ r.length ≤ 1000000 →
      Calls Tryz.prog 36 #[vout, vd, vr, vc] w (AllRes lo vout (ms ++ (allL r c).map (d ++ ·)) w) := by
  intro r
  induction r with
  | nil =>
    intro w0 w lo lod c d ms vout vd vr vc h1 h2 h3 _ h5 _ h7 h8 h9 _ _ _ h13
    exact specAll_nil w lo lod c d ms vout vd vr vc h1 h2 (inRow_below h3.1 h5) (by simpa using h8) h9 (by simpa using h13) h7
  | cons a r ih =>
    intro w0 w lo lod c d ms vout vd vr vc h1 h2 h3 h4 h5 h6 h7 h8 h9 h10 h11 h12 h13
    exact specAll_cons a r ih w0 w lo lod c d ms vout vd vr vc h1 h2 h3 h4 h5 h6 h7 h8 h9 h10 h11 h12 h13
/-- All images, in a list of the call's own. -/
theorem specAll_start (r c : List Int) (vr vc : Value) (w w' : World) (hr : RowC w vr r) (hc : InRow w vc c) (h : existsOf r c = true) (hb : Below w.heap.size w w') :
    Calls Tryz.prog 36 #[.slice none 0 0, .slice none 0 0, vr, vc] w' fun e w2 => ∃ u, e = .returned u ∧ OwnImgs w2 w.heap.size u (allL r c) ∧ Below w.heap.size w w2 := by
  obtain ⟨hr5, hc5, hrb, hcb, -⟩ := sumsOk_yes (existsOf_sums h)
  refine (specAll_any r w w' w.heap.size w.heap.size c [] [] (.slice none 0 0) (.slice none 0 0) vr vc ⟨[], World.ownsRow_nil _ _ _ _, fun i h => absurd h (Nat.not_lt_zero _)⟩ ⟨[], World.ownsRow_nil _ _ _ _, fun i h => absurd h (Nat.not_lt_zero _)⟩ hr (.inl hc) hb (Nat.le_refl _) hb.size (by simp; exact hr5.2) (by simp) (fun x hx => by
      obtain ⟨k, hk, rfl⟩ := List.getElem_of_mem hx
      have := noBad_at hrb hk; omega) hc5 (fun x hx => by
      rw [List.getD_eq_getElem?_getD, List.getElem?_eq_getElem hx, Option.getD_some]
      have := noBad_at hcb hx; omega) (by
      have : (10 : Nat) ^ r.length ≤ 10 ^ 5 := Nat.pow_le_pow_right (by decide) hr5.2
      simp; omega)).mono ?_
  rintro e w2 ⟨u, rfl, hi, hg, -⟩
  refine ⟨u, rfl, by simpa using hi, hb.grown hg hb.size fun k e => ?_⟩
  simp [Value.ownBlock] at e
theorem place_color {r c : List Int} {y x v : Int} (h : ¬ (0 ≤ v ∧ v ≤ 1)) : placeOf r c y x v = false := by
  unfold placeOf
  by_cases hr : 0 ≤ y ∧ y < r.length ∧ 0 ≤ x ∧ x < c.length
  · have : (rowsAtL r c y.toNat).any (fun row => row.getD x.toNat 0 == v) = false := by
      rw [List.any_eq_false]
      intro row hrow
      have h1 := (mem_rowsL _ _ _).1 (List.mem_filter.1 hrow).1
      have h2 := rowOf_cell h1 (x := x.toNat) (by omega)
      rw [beq_iff_eq]
      intro e
      omega
    rw [this, Bool.and_false]
  · rw [decide_eq_false hr]; simp
/-- What l01In answers here. -/
def inB (n lo hi : Int) : Bool := decide (lo ≤ n ∧ n ≤ hi)
end Go.Proofs.YtjnnoabaepmcnaaGreat
/-
  AllImages and CountImages of the model.
-/
namespace Go.Proofs.YtjnnoabaepmcnaaGreat
open Go.RowKit

/-- All images with given sums; none where the sums are refused. -/
def allIm (r c : List Int) : List (List (List Int)) := if existsOf r c = true then allL r c else []
def countIm (r c : List Int) : Int := if sumsOk r c = true then ((allIm r c).length : Int) else -1
theorem allL_none {r c : List Int} (h : sumsOk r c = true) (he : existsOf r c = false) : allL r c = [] := by
  obtain ⟨hr, hc, -⟩ := sumsOk_yes h
  cases r with
  | nil => simp at hr
  | cons a r =>
    rw [allL, List.flatMap_eq_nil_iff]
    intro row hrow
    cases hb : restB r (subL c row) with
    | false => simp
    | true =>
      exfalso
      have h1 := (restB_iff (by simp at hr; omega) (by rw [subL_len]; exact hc)).1 hb
      have h2 := exists_of_img hr hc ((hasImg_cons a r c).2 ⟨row, (mem_rowsL _ _ _).1 hrow, h1⟩)
      rw [he] at h2; cases h2
theorem allIm_sums {r c : List Int} (h : sumsOk r c = true) : allIm r c = allL r c := by
  unfold allIm
  cases he : existsOf r c with
  | true => simp
  | false => simp [allL_none h he]
theorem allIm_refused {r c : List Int} (h : sumsOk r c = false) : allIm r c = [] := by
  unfold allIm
  rw [if_neg]
  intro he
  rw [existsOf_sums he] at h; cases h
theorem allIm_len (r c : List Int) : (allIm r c).length ≤ 100000 := by
  unfold allIm
  split
  · rename_i h
    obtain ⟨hr, hc, -⟩ := sumsOk_yes (existsOf_sums h)
    refine Nat.le_trans (allL_len r c hc.2) ?_
    exact Nat.le_trans (Nat.pow_le_pow_right (by decide) hr.2) (by decide)
  · simp
/-- The call answers a list of lists of lists of its own, and a bool. -/
def ImgsRes2 (ms : List (List (List Int))) (b : Bool) (w : World) (e : Ending) (w' : World) : Prop := ∃ v, e = .returned (.tuple #[v, .bool b]) ∧ OwnImgs w' w.heap.size v ms ∧ Below w.heap.size w w'
theorem ownImgs_nil (w : World) (lo : Nat) : OwnImgs w lo (.slice none 0 0) [] := ⟨[], World.ownsRow_nil _ _ _ _, fun _ h => absurd h (Nat.not_lt_zero _)⟩

set_option maxHeartbeats 400000 in
theorem specAllIm_any (va vb : Value) (r c : List Int) (w : World) (ha : RowC w va r) (hb : RowC w vb c) :
    Calls Tryz.prog 22 #[va, vb] w (ImgsRes2 (allIm r c) (sumsOk r c) w) := by
  have HA := hide ha.1; have HB := hide hb.1
  cases h : sumsOk r c with
  | false =>
    rw [allIm_refused h]
    have H := hide h
    clear h ha hb
    go_enter Tryz.func22, Tryz.ntmps22
    go_wp2_with ((with_reducible refine (specSumsOk_any va vb r c _ HA.out HB.out).mono ?_); rw [H.out]; rintro e w1 ⟨rfl, b1⟩; have B1 := hide b1; clear b1)
    go_ret2
    exact ⟨_, rfl, ownImgs_nil _ _, B1.out⟩
  | true =>
    have H := hide h
    cases he : existsOf r c with
    | false =>
      rw [allIm_sums h, allL_none h he]
      have HE := hide he
      clear h he ha hb
      go_enter Tryz.func22, Tryz.ntmps22
      go_wp2_with (first | ((with_reducible refine (specSumsOk_any va vb r c _ HA.out HB.out).mono ?_); rw [H.out]; rintro e w1 ⟨rfl, b1⟩; have B1 := hide b1; clear b1) | ((with_reducible refine (specExists_any va vb r c _ (inRow_below HA.out B1.out) (inRow_below HB.out B1.out)).mono ?_); rw [HE.out]; rintro e w2 ⟨rfl, b2⟩; have B2 := hide (B1.out.trans (b2.mono B1.out.size)); clear b2))
      go_ret2
      exact ⟨_, rfl, ownImgs_nil _ _, B2.out⟩
    | true =>
      rw [allIm_sums h]
      have HE := hide he
      have HALL := hide fun (w' : World) (hw : Below w.heap.size w w') => specAll_start r c va vb w w' ha hb.1 he hw
      obtain ⟨xa, ca, hva, -, -⟩ := ha.1
      obtain ⟨xb, cb, hvb, -, -⟩ := hb.1
      subst hva hvb
      obtain ⟨R, hR⟩ : ∃ R, R = r.length := ⟨_, rfl⟩
      obtain ⟨C, hC⟩ : ∃ C, C = c.length := ⟨_, rfl⟩
      rw [← hR] at HA HALL ⊢
      rw [← hC] at HB HALL ⊢
      clear h he ha hb hR hC
      go_enter Tryz.func22, Tryz.ntmps22
      go_wp2_with (first | ((with_reducible refine (specSumsOk_any _ _ r c _ HA.out HB.out).mono ?_); rw [H.out]; rintro e w1 ⟨rfl, b1⟩; have B1 := hide b1; clear b1) | ((with_reducible refine (specExists_any _ _ r c _ (inRow_below HA.out B1.out) (inRow_below HB.out B1.out)).mono ?_); rw [HE.out]; rintro e w2 ⟨rfl, b2⟩; have B2 := hide (B1.out.trans (b2.mono B1.out.size)); clear b2) | ((with_reducible refine (HALL.out _ B2.out).mono ?_); rintro e w3 ⟨u, rfl, ⟨us, hv, hm⟩, hb3⟩; obtain ⟨au, cu, rfl⟩ := own_slice hv; have HR3 := hide (And.intro (show OwnImgs _ _ _ _ from ⟨us, hv, hm⟩) hb3); clear hv hm hb3))
      go_ret2
      exact ⟨_, rfl, HR3.out.1, HR3.out.2⟩

end Go.Proofs.YtjnnoabaepmcnaaGreat
