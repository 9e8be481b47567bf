/-
  Texts of this claim, one behind the other: LeastS, LawsCP.
-/
import Derived.Test.YtecfigjkcpbggaaPackK
import Derived.Test.YtecfigjkcpbggaaPackE
import Derived.Test.YtecfigjkcpbggaaPackI
/-
  LeastImage and CanPlace of the model.
-/
namespace Go.Proofs.Ytecfigjkcpbggaa
open Go.RowKit

theorem specAll_any : ∀ (r : List Int) (w0 w : World) (lo lod : Nat) (c : List Int) (d : List (List Int)) (ms : List (List (List Int))) (vout vd vr vc : Value), OwnImgs w lo vout ms → MatT w lod vd d → RowC w0 vr r → Keep w0 w vc c → Below w0.heap.size w0 w → w0.heap.size ≤ lo → lo ≤ w.heap.size → d.length + r.length ≤ 5 → (∀ q ∈ d, q.length ≤ 5) → (∀ x ∈ r, 0 ≤ x ∧ x ≤ 5) → (1 ≤ c.length ∧ c.length ≤ 5) → (∀ x, x < c.length → 0 ≤ c.getD x 0 ∧ c.getD x 0 ≤ 5) → ms.length + 10 ^ r.length ≤ 1000000 →
      Calls Try.prog 32 #[vout, vd, vr, vc] w (AllRes lo vout (ms ++ (allL r c).map (d ++ ·)) w) := by
  intro r
  induction r with
  | nil =>
    intro w0 w lo lod c d ms vout vd vr vc h1 h2 h3 _ h5 _ h7 h8 h9 _ _ _ h13
    exact specAll_nil w lo lod c d ms vout vd vr vc h1 h2 (inRow_below h3.1 h5) (by simpa using h8) h9 (by simpa using h13) h7
  | cons a r ih =>
    intro w0 w lo lod c d ms vout vd vr vc h1 h2 h3 h4 h5 h6 h7 h8 h9 h10 h11 h12 h13
    exact specAll_cons a r ih w0 w lo lod c d ms vout vd vr vc h1 h2 h3 h4 h5 h6 h7 h8 h9 h10 h11 h12 h13
/-- All images, in a list of the call's own. -/
theorem specAll_start (r c : List Int) (vr vc : Value) (w w' : World) (hr : RowC w vr r) (hc : InRow w vc c) (h : existsOf r c = true) (hb : Below w.heap.size w w') :
    Calls Try.prog 32 #[.slice none 0 0, .slice none 0 0, vr, vc] w' fun e w2 => ∃ u, e = .returned u ∧ OwnImgs w2 w.heap.size u (allL r c) ∧ Below w.heap.size w w2 := by
  obtain ⟨hr5, hc5, hrb, hcb, -⟩ := sumsOk_yes (existsOf_sums h)
  refine (specAll_any r w w' w.heap.size w.heap.size c [] [] (.slice none 0 0) (.slice none 0 0) vr vc ⟨[], World.ownsRow_nil _ _ _ _, fun i h => absurd h (Nat.not_lt_zero _)⟩ ⟨[], World.ownsRow_nil _ _ _ _, fun i h => absurd h (Nat.not_lt_zero _)⟩ hr (.inl hc) hb (Nat.le_refl _) hb.size (by simp; exact hr5.2) (by simp) (fun x hx => by
      obtain ⟨k, hk, rfl⟩ := List.getElem_of_mem hx
      have := noBad_at hrb hk; omega) hc5 (fun x hx => by
      rw [List.getD_eq_getElem?_getD, List.getElem?_eq_getElem hx, Option.getD_some]
      have := noBad_at hcb hx; omega) (by
      have : (10 : Nat) ^ r.length ≤ 10 ^ 5 := Nat.pow_le_pow_right (by decide) hr5.2
      simp; omega)).mono ?_
  rintro e w2 ⟨u, rfl, hi, hg, -⟩
  refine ⟨u, rfl, by simpa using hi, hb.grown hg hb.size fun k e => ?_⟩
  simp [Value.ownBlock] at e
set_option maxHeartbeats 400000 in
theorem specLeast_no (va vb : Value) (r c : List Int) (w : World) (ha : InRow w va r) (hb : InRow w vb c) (h : existsOf r c = false) :
    Calls Try.prog 16 #[va, vb] w (MatRes2 [] false w) := by
  have HA := hide ha; have HB := hide hb; have H := hide h
  clear ha hb h
  go_enter Try.func16, Try.ntmps16
  go_wp2_with ((with_reducible refine (specExists_any va vb r c _ HA.out HB.out).mono ?_); rw [H.out]; rintro e w1 ⟨rfl, b1⟩; have B1 := hide b1; clear b1)
  go_ret2
  exact matRes2_nil B1.out
set_option maxHeartbeats 1000000 in
theorem specLeast_yes (va vb : Value) (r c : List Int) (w : World) (ha : RowC w va r) (hb : RowC w vb c) (h : existsOf r c = true) :
    Calls Try.prog 16 #[va, vb] w (MatRes2 (imgL leastCh r c) true w) := by
  have HA := hide ha.1; have HB := hide hb.1; have H := hide h
  have HALL := hide fun (w' : World) (hw : Below w.heap.size w w') => specAll_start r c va vb w w' ha hb.1 h hw
  obtain ⟨hr5, hc5, -⟩ := sumsOk_yes (existsOf_sums h)
  obtain ⟨l, hl⟩ := all_first r c hr5.2 hc5 (img_of_exists h)
  rw [hl] at HALL
  obtain ⟨xa, ca, hva, -, -⟩ := ha.1
  obtain ⟨xb, cb, hvb, -, -⟩ := hb.1
  subst hva hvb
  obtain ⟨R, hR⟩ : ∃ R, R = r.length := ⟨_, rfl⟩
  obtain ⟨C, hC⟩ : ∃ C, C = c.length := ⟨_, rfl⟩
  rw [← hR] at HA HALL ⊢
  rw [← hC] at HB HALL ⊢
  obtain ⟨M, hM⟩ : ∃ M, M = imgL leastCh r c := ⟨_, rfl⟩
  rw [← hM] at HALL ⊢
  clear ha hb h hr5 hc5 hl hR hC hM
  go_enter Try.func16, Try.ntmps16
  go_wp2_with ((with_reducible refine (specExists_any _ _ r c _ HA.out HB.out).mono ?_); rw [H.out]; rintro e w1 ⟨rfl, b1⟩; have B1 := hide b1; clear b1)
  refine (HALL.out _ B1.out).mono ?_
  rintro e w2 ⟨u, rfl, ⟨us, hv, hm⟩, hb2⟩
  obtain ⟨g, cap, rfl, -, -, -, -, -, -⟩ := own_some hv (by simp)
  have hx := cell_held hv (show 0 < (M :: l).length by simp)
  have HM := hide (hm 0 (by simp))
  rw [List.getElem_cons_zero] at HM
  obtain ⟨u0, hu0⟩ : ∃ u0, u0 = us.getD 0 undef := ⟨_, rfl⟩
  rw [← hu0] at hx HM
  have HB2 := hide hb2
  obtain ⟨k, hk⟩ : ∃ k, k = (M :: l).length := ⟨_, rfl⟩
  have hk1 : 0 < k := by rw [hk]; simp
  obtain ⟨a0, n0, c0, he⟩ : ∃ a n c, u0 = .slice a n c := by obtain ⟨a, c, rfl, -⟩ := inMat_matT (ownM2_matT HM.out); exact ⟨a, _, c, rfl⟩
  rw [← hk]
  clear hv hm hb2 hk hu0
  subst he
  go_wp2
  go_ret2
  obtain ⟨hi, h1, h2⟩ := HM.out
  exact ⟨_, rfl, ownMat_mono h2 (Nat.le_refl _) h1, HB2.out⟩
theorem specLeast_any (va vb : Value) (r c : List Int) (w : World) (ha : RowC w va r) (hb : RowC w vb c) :
    Calls Try.prog 16 #[va, vb] w (MatRes2 (if existsOf r c = true then imgL leastCh r c else []) (existsOf r c) w) := by
  cases h : existsOf r c with
  | true => rw [if_pos rfl]; exact specLeast_yes va vb r c w ha hb h
  | false => rw [if_neg (by decide)]; exact specLeast_no va vb r c w ha.1 hb.1 h

theorem place_color {r c : List Int} {y x v : Int} (h : ¬ (0 ≤ v ∧ v ≤ 1)) : placeOf r c y x v = false := by
  unfold placeOf
  by_cases hr : 0 ≤ y ∧ y < r.length ∧ 0 ≤ x ∧ x < c.length
  · have : (rowsAtL r c y.toNat).any (fun row => row.getD x.toNat 0 == v) = false := by
      rw [List.any_eq_false]
      intro row hrow
      have h1 := (mem_rowsL _ _ _).1 (List.mem_filter.1 hrow).1
      have h2 := rowOf_cell h1 (x := x.toNat) (by omega)
      rw [beq_iff_eq]
      intro e
      omega
    rw [this, Bool.and_false]
  · rw [decide_eq_false hr]; simp
/-- What l01In answers here. -/
def inB (n lo hi : Int) : Bool := decide (lo ≤ n ∧ n ≤ hi)
set_option maxHeartbeats 400000 in
theorem specPlace_no (va vb : Value) (r c : List Int) (y x v : Int) (w : World) (ha : InRow w va r) (hb : InRow w vb c) (h : existsOf r c = false) :
    Calls Try.prog 18 #[va, vb, .int .i64 y, .int .i64 x, .int .i64 v] w fun e w' => e = .returned (.bool (placeOf r c y x v)) ∧ Below w.heap.size w w' := by
  rw [place_no h]
  have HE := hide (specExists_any va vb r c w ha hb)
  rw [h] at HE
  clear ha hb h
  go_enter Try.func18, Try.ntmps18
  go_wp2_with (go_at_call 26; refine HE.out.mono ?_; rintro e w1 ⟨rfl, b1⟩; have B1 := hide b1; clear b1)
  go_ret
  exact ⟨rfl, B1.out⟩
set_option maxHeartbeats 1000000 in
theorem specPlace_out (va vb : Value) (r c : List Int) (y x v : Int) (w : World) (ha : InRow w va r) (hb : InRow w vb c) (h : existsOf r c = true) (ho : ¬ (0 ≤ y ∧ y < r.length ∧ 0 ≤ x ∧ x < c.length ∧ 0 ≤ v ∧ v ≤ 1)) :
    Calls Try.prog 18 #[va, vb, .int .i64 y, .int .i64 x, .int .i64 v] w fun e w' => e = .returned (.bool (placeOf r c y x v)) ∧ Below w.heap.size w w' := by
  have hp : placeOf r c y x v = false := by
    by_cases h1 : 0 ≤ y ∧ y < r.length ∧ 0 ≤ x ∧ x < c.length
    · exact place_color (by omega)
    · exact place_out h1
  rw [hp]
  have HE := hide (specExists_any va vb r c w ha hb)
  rw [h] at HE
  obtain ⟨xa, ca, rfl, hma, -⟩ := ha
  obtain ⟨xb, cb, rfl, hmb, -⟩ := hb
  unfold maxLen at hma hmb
  obtain ⟨R, hR⟩ : ∃ R, R = r.length := ⟨_, rfl⟩
  obtain ⟨C, hC⟩ : ∃ C, C = c.length := ⟨_, rfl⟩
  rw [← hR] at ho hma HE ⊢
  rw [← hC] at ho hmb HE ⊢
  have H1 : Hid (∀ w, Calls Try.prog 34 #[.int .i64 y, .int .i64 0, .int .i64 ((R : Int) - 1)] w fun e w' => e = .returned (.bool (inB y 0 ((R : Int) - 1))) ∧ w = w') := hide fun w => l01In_any _ _ _ w
  have H2 : Hid (∀ w, Calls Try.prog 34 #[.int .i64 x, .int .i64 0, .int .i64 ((C : Int) - 1)] w fun e w' => e = .returned (.bool (inB x 0 ((C : Int) - 1))) ∧ w = w') := hide fun w => l01In_any _ _ _ w
  have H3 : Hid (∀ w, Calls Try.prog 34 #[.int .i64 v, .int .i64 0, .int .i64 1] w fun e w' => e = .returned (.bool (inB v 0 1)) ∧ w = w') := hide fun w => l01In_any _ _ _ w
  have hcases : inB y 0 ((R : Int) - 1) = false ∨ (inB y 0 ((R : Int) - 1) = true ∧ inB x 0 ((C : Int) - 1) = false) ∨ (inB y 0 ((R : Int) - 1) = true ∧ inB x 0 ((C : Int) - 1) = true ∧ inB v 0 1 = false) := by
    unfold inB
    by_cases h1 : 0 ≤ y ∧ y ≤ (R : Int) - 1
    · by_cases h2 : 0 ≤ x ∧ x ≤ (C : Int) - 1
      · right; right
        exact ⟨decide_eq_true h1, decide_eq_true h2, decide_eq_false (by omega)⟩
      · right; left
        exact ⟨decide_eq_true h1, decide_eq_false h2⟩
    · left; exact decide_eq_false h1
  clear h hR hC ho hp
  rcases hcases with h1 | ⟨h1, h2⟩ | ⟨h1, h2, h3⟩
  all_goals
    first | rw [h1] at H1 | skip
    first | rw [h2] at H2 | skip
    first | rw [h3] at H3 | skip
    go_enter Try.func18, Try.ntmps18
    go_wp2_with (first | (go_at_call 26; refine HE.out.mono ?_; rintro e w1 ⟨rfl, b1⟩; have B1 := hide b1; clear b1) | (with_reducible refine (H1.out _).mono ?_; rintro e w2 ⟨rfl, rfl⟩) | (with_reducible refine (H2.out _).mono ?_; rintro e w2 ⟨rfl, rfl⟩) | (with_reducible refine (H3.out _).mono ?_; rintro e w2 ⟨rfl, rfl⟩))
    go_ret
    exact ⟨rfl, B1.out⟩
set_option maxRecDepth 100000 in
set_option maxHeartbeats 2000000 in
theorem specPlace_in (va vb : Value) (r c : List Int) (y x : Nat) (v : Int) (w : World) (ha : RowC w va r) (hb : RowC w vb c) (h : existsOf r c = true) (hy : y < r.length) (hx : x < c.length) (hv : 0 ≤ v ∧ v ≤ 1) :
    Calls Try.prog 18 #[va, vb, .int .i64 y, .int .i64 x, .int .i64 v] w fun e w' => e = .returned (.bool (placeOf r c y x v)) ∧ Below w.heap.size w w' := by
  obtain ⟨hr5, hc5, -⟩ := sumsOk_yes (existsOf_sums h)
  have himg := img_of_exists h
  rw [place_in h hy hx, ← place_iff v hr5.2 hc5 hy himg]
  have HE := hide (specExists_any va vb r c w ha.1 hb.1)
  rw [h] at HE
  have HALL := hide fun (w' : World) (hw : Below w.heap.size w w') => specAll_start r c va vb w w' ha hb.1 h hw
  have HSND : Hid (∀ l ∈ allL r c, l.length = r.length ∧ ∀ q ∈ l, q.length = c.length) := hide fun l hl => by
    obtain ⟨h1, h2, -⟩ := all_sound r c hr5.2 hc5 himg l hl
    exact ⟨h1, h2⟩
  have H1 : Hid (∀ w, Calls Try.prog 34 #[.int .i64 y, .int .i64 0, .int .i64 ((r.length : Int) - 1)] w fun e w' => e = .returned (.bool true) ∧ w = w') := hide fun w => by
    have := l01In_any y 0 ((r.length : Int) - 1) w
    rwa [decide_eq_true (by omega)] at this
  have H2 : Hid (∀ w, Calls Try.prog 34 #[.int .i64 x, .int .i64 0, .int .i64 ((c.length : Int) - 1)] w fun e w' => e = .returned (.bool true) ∧ w = w') := hide fun w => by
    have := l01In_any x 0 ((c.length : Int) - 1) w
    rwa [decide_eq_true (by omega)] at this
  have H3 : Hid (∀ w, Calls Try.prog 34 #[.int .i64 v, .int .i64 0, .int .i64 1] w fun e w' => e = .returned (.bool true) ∧ w = w') := hide fun w => by
    have := l01In_any v 0 1 w
    rwa [decide_eq_true hv] at this
  obtain ⟨xa, ca, hva, hma, -⟩ := ha.1
  obtain ⟨xb, cb, hvb, hmb, -⟩ := hb.1
  subst hva hvb
  unfold maxLen at hma hmb
  obtain ⟨R, hR⟩ : ∃ R, R = r.length := ⟨_, rfl⟩
  obtain ⟨C, hC⟩ : ∃ C, C = c.length := ⟨_, rfl⟩
  rw [← hR] at hy hma HE HALL HSND H1 ⊢
  rw [← hC] at hx hmb HE HALL HSND H2 ⊢
  have hlen : (allL r c).length ≤ 1000000 := by
    have h1 := allL_len r c hc5.2
    have h2 : (10 : Nat) ^ r.length ≤ 10 ^ 5 := Nat.pow_le_pow_right (by decide) hr5.2
    omega
  obtain ⟨ms, hms⟩ : ∃ ms, ms = allL r c := ⟨_, rfl⟩
  rw [← hms] at HALL HSND hlen ⊢
  obtain ⟨ans, hans⟩ : ∃ ans, ans = ms.any fun m => (m.getD y []).getD x 0 == v := ⟨_, rfl⟩
  have HANS := hide hans
  rw [← hans]
  clear hans
  have hyI : (y : Int) < R := by omega
  have hxI : (x : Int) < C := by omega
  clear ha hb h hr5 hc5 himg hms hR hC
  go_enter Try.func18, Try.ntmps18
  go_wp2_with (first | (go_at_call 26; refine HE.out.mono ?_; rintro e w1 ⟨rfl, b1⟩; have B1 := hide b1; clear b1) | (with_reducible refine (H1.out _).mono ?_; rintro e w2 ⟨rfl, rfl⟩) | (with_reducible refine (H2.out _).mono ?_; rintro e w2 ⟨rfl, rfl⟩) | (with_reducible refine (H3.out _).mono ?_; rintro e w2 ⟨rfl, rfl⟩))
  refine (HALL.out _ B1.out).mono ?_
  rintro e w2 ⟨u, rfl, ⟨us, hvs, hm⟩, hb2⟩
  obtain ⟨au, cu, rfl⟩ := own_slice hvs
  have HVS := hide hvs; have HM := hide hm; have HB2 := hide hb2
  obtain ⟨n, hn⟩ : ∃ n, n = ms.length := ⟨_, rfl⟩
  have HN := hide hn
  rw [← hn] at HVS hlen ⊢
  clear hvs hm hb2 hn H1 H2 H3 HE HALL
  go_wp2
  go_loop [42] (fun i => ∃ j : Nat, j ≤ n ∧ i = .int .i64 j ∧ ∀ t, t < j → (((ms.getD t []).getD y []).getD x 0 == v) = false) (fun i => n - (intOf i).toNat)
  case atStart => exact ⟨0, Nat.zero_le _, rfl, fun t h => absurd h (Nat.not_lt_zero _)⟩
  case round =>
    obtain ⟨j, hj, rfl, hall⟩ := hrel
    have HA := hide hall
    clear hall
    by_cases hlt : j < n
    · have hltI : (j : Int) < n := by omega
      have hjm : j < ms.length := by rw [← HN.out]; exact hlt
      obtain ⟨gu, cu', he, -, -, -, -, -, -⟩ := own_some HVS.out (by omega)
      cases he
      have hx1 := cell_held HVS.out hlt
      obtain ⟨hl1, hl2⟩ := HSND.out _ (List.getElem_mem hjm)
      obtain ⟨ai, ci, hui, hmi, hpi⟩ := inMat_matT (ownM2_matT (HM.out j hjm))
      obtain ⟨gi, oi, rfl, hgi, hci⟩ := hpi.resolve_left (by omega)
      have hym : y < ms[j].length := by omega
      obtain ⟨uy, huy, hry⟩ := hci y hym
      have hlr := hl2 _ (List.getElem_mem hym)
      obtain ⟨ay, cy, rfl, hmy, hpy⟩ := hry
      obtain ⟨gy, oy, rfl, hgy, hcy⟩ := hpy.resolve_left (by omega)
      have hcell := hcy x (by omega)
      have e1 : ((ms.getD j []).getD y []).getD x 0 = (ms[j][y])[x]'(by omega) := by
        rw [List.getD_eq_getElem?_getD (l := ms), List.getElem?_eq_getElem hjm, Option.getD_some, List.getD_eq_getElem?_getD (l := ms[j]), List.getElem?_eq_getElem hym, Option.getD_some, List.getD_eq_getElem?_getD, List.getElem?_eq_getElem (by omega)]; rfl
      rw [hui, hl1] at hx1
      rw [hlr] at huy hmy
      obtain ⟨z, hz⟩ : ∃ z, z = (ms[j][y])[x]'(by omega) := ⟨_, rfl⟩
      rw [← hz] at hcell e1
      have HE1 := hide e1
      have HSTEP : Hid ((z == v) = false → ∀ t, t < j + 1 → (((ms.getD t []).getD y []).getD x 0 == v) = false) := hide fun h t ht => by
        by_cases e : t = j
        · subst e; rw [HE1.out]; exact h
        · exact HA.out t (by omega)
      have HHIT : Hid ((z == v) = true → ans = true) := hide fun h => by
        rw [HANS.out, List.any_eq_true]
        refine ⟨ms.getD j [], ?_, by rw [HE1.out]; exact h⟩
        rw [List.getD_eq_getElem?_getD, List.getElem?_eq_getElem hjm]; exact List.getElem_mem hjm
      clear hci hcy hz e1 hpi hpy hui hl1 hl2 hlr hmi
      cases hq : (z == v) with
      | true =>
        have HF := hide (HHIT.out hq)
        go_wp2
        go_ret
        exact ⟨by rw [HF.out]; rfl, HB2.out⟩
      | false =>
        have HS := hide (HSTEP.out hq)
        go_wp2
        go_round
        case rel => exact ⟨j + 1, by omega, by go_num, HS.out⟩
        case measure => simp [intOf]; omega
    · obtain rfl : j = n := by omega
      have HF : Hid (ans = false) := hide (by
        rw [HANS.out, List.any_eq_false]
        intro m hm
        obtain ⟨t, ht, rfl⟩ := List.getElem_of_mem hm
        have := HA.out t (by rw [HN.out]; exact ht)
        rw [List.getD_eq_getElem?_getD (l := ms), List.getElem?_eq_getElem ht, Option.getD_some] at this
        rw [this]; decide)
      go_wp2
      go_ret
      exact ⟨by rw [HF.out]; rfl, HB2.out⟩
theorem specPlace_any (va vb : Value) (r c : List Int) (y x v : Int) (w : World) (ha : RowC w va r) (hb : RowC w vb c) :
    Calls Try.prog 18 #[va, vb, .int .i64 y, .int .i64 x, .int .i64 v] w fun e w' => e = .returned (.bool (placeOf r c y x v)) ∧ Below w.heap.size w w' := by
  cases h : existsOf r c with
  | false => exact specPlace_no va vb r c y x v w ha.1 hb.1 h
  | true =>
    by_cases ho : 0 ≤ y ∧ y < r.length ∧ 0 ≤ x ∧ x < c.length ∧ 0 ≤ v ∧ v ≤ 1
    · obtain ⟨h1, h2, h3, h4, h5⟩ := ho
      obtain ⟨y', rfl⟩ : ∃ y' : Nat, y = y' := ⟨y.toNat, by omega⟩
      obtain ⟨x', rfl⟩ : ∃ x' : Nat, x = x' := ⟨x.toNat, by omega⟩
      exact specPlace_in va vb r c y' x' v w ha hb h (by omega) (by omega) h5
    · exact specPlace_out va vb r c y x v w ha.1 hb.1 h ho
end Go.Proofs.Ytecfigjkcpbggaa
/-
  The exact laws on LeastImage and CanPlace, out of the contracts.
-/
namespace Go.Proofs.Ytecfigjkcpbggaa
open Go.RowKit
set_option linter.unusedVariables false

theorem leastCh_len {r c : List Int} : ∀ q ∈ imgL leastCh r c, r.length ≤ 5 → (1 ≤ c.length ∧ c.length ≤ 5) → HasImg r c → q.length = c.length := by
  induction r generalizing c with
  | nil => intro q hq; simp [imgL] at hq
  | cons a r ih =>
    intro q hq hr hc h
    rw [List.length_cons] at hr
    obtain ⟨g1, g2⟩ := leastCh_spec (by omega) hc h
    rw [imgL, List.mem_cons] at hq
    rcases hq with rfl | hq
    · exact g1.1
    · have := ih q hq (by omega) (by rw [subL_len]; exact hc) g2
      rw [this, subL_len]
theorem lawLeastImage_walk (a : Option Addr) (n c : Nat) (r : List Int) (b : Option Addr) (k d : Nat) (s : List Int) (w : World) (hin : InRow w (.slice a n c) r) (hin2 : InRow w (.slice b k d) s) :
    Calls Try.prog 4 #[.slice a n c, .slice b k d] w fun e w' => e = .returned (.bool true) ∧ Below w.heap.size w w' := by
  refine lawLeastImage_gen a n c r b k d s w hin hin2 (if existsOf r s = true then imgL leastCh r s else []) (existsOf r s) ?_ (fun v u w hv hu => specLeast_any v u r s w hv hu) (fun v u w hv hu => implLeast_any v u r s w hv hu)
  cases h : existsOf r s with
  | true =>
    obtain ⟨hr, hc, -⟩ := sumsOk_yes (existsOf_sums h)
    rw [if_pos rfl]
    refine rows_small (by rw [imgL_len]; exact hr.2) fun q hq => ?_
    rw [leastCh_len q hq hr.2 hc (img_of_exists h)]; exact hc.2
  | false => rw [if_neg (by decide)]; decide

set_option maxRecDepth 100000 in
set_option maxHeartbeats 1000000 in
theorem lawCanPlace_gen (a0 : Option Addr) (n0 c0 : Nat) (r0 : List Int) (a1 : Option Addr) (n1 c1 : Nat) (r1 : List Int) (m2 : Int) (m3 : Int) (m4 : Int) (w : World) (hin0 : InRow w (.slice a0 n0 c0) r0) (hin1 : InRow w (.slice a1 n1 c1) r1) (val : Bool)
    (hs : r0.length ≤ 1048576 → r1.length ≤ 1048576 → ∀ (v0 : Value) (v1 : Value) (w : World), RowC w v0 r0 → RowC w v1 r1 → Calls Try.prog 18 #[v0, v1, .int .i64 m2, .int .i64 m3, .int .i64 m4] w fun e w' => e = .returned (.bool val) ∧ Below w.heap.size w w')
    (hi : r0.length ≤ 1048576 → r1.length ≤ 1048576 → ∀ (v0 : Value) (v1 : Value) (w : World), RowC w v0 r0 → RowC w v1 r1 → Calls Try.prog 19 #[v0, v1, .int .i64 m2, .int .i64 m3, .int .i64 m4] w fun e w' => e = .returned (.bool val) ∧ Below w.heap.size w w') :
    Calls Try.prog 5 #[.slice a0 n0 c0, .slice a1 n1 c1, .int .i64 m2, .int .i64 m3, .int .i64 m4] w fun e w' => e = .returned (.bool true) ∧ Below w.heap.size w w' := by
  have HI0 := hide hin0
  obtain ⟨a', c', he, hm0, -⟩ := hin0
  cases he
  unfold maxLen at hm0
  have HI1 := hide hin1
  obtain ⟨a', c', he, hm1, -⟩ := hin1
  cases he
  unfold maxLen at hm1
  by_cases hr0 : 1048576 < r0.length
  · clear hs hi
    obtain ⟨R0, hR0⟩ : ∃ R0, R0 = r0.length := ⟨_, rfl⟩
    obtain ⟨R1, hR1⟩ : ∃ R1, R1 = r1.length := ⟨_, rfl⟩
    rw [← hR0] at HI0 hm0 hr0 ⊢
    rw [← hR1] at HI1 hm1 ⊢
    clear hR0 hR1
    go_enter Try.func5, Try.ntmps5
    go_wp2
    go_ret
    exact ⟨rfl, Below.refl _ _⟩
  · by_cases hr1 : 1048576 < r1.length
    · clear hs hi
      obtain ⟨R0, hR0⟩ : ∃ R0, R0 = r0.length := ⟨_, rfl⟩
      obtain ⟨R1, hR1⟩ : ∃ R1, R1 = r1.length := ⟨_, rfl⟩
      rw [← hR0] at HI0 hm0 hr0 ⊢
      rw [← hR1] at HI1 hm1 hr1 ⊢
      clear hR0 hR1
      go_enter Try.func5, Try.ntmps5
      go_wp2
      go_ret
      exact ⟨rfl, Below.refl _ _⟩
    · have HS := hide (hs (by omega) (by omega)); have HM := hide (hi (by omega) (by omega))
      have HR0 : Hid (r0.length ≤ 2000000) := hide (by omega)
      have HR1 : Hid (r1.length ≤ 2000000) := hide (by omega)
      clear hs hi
      go_enter Try.func5, Try.ntmps5
      go_wp2_with fail
      refine (toIntS_any _ r0 _ HR0.out HI0.out).mono ?_
      rintro e w1 ⟨ps0, rfl, ho, hb⟩
      have Ps0_1 := hide (rowC_own ho); have HB1 := hide (hb); clear ho hb
      go_wp2_with fail
      refine (toIntS_any _ r1 _ HR1.out (inRow_below HI1.out HB1.out)).mono ?_
      rintro e w2 ⟨ps1, rfl, ho, hb⟩
      have Ps0_2 := hide (rowC_below Ps0_1.out hb); have Ps1_2 := hide (rowC_own ho); have HB2 := hide (HB1.out.trans (hb.mono HB1.out.size)); clear ho hb
      go_wp2_with fail
      refine (HS.out ps0 ps1 _ Ps0_2.out Ps1_2.out).mono ?_
      rintro e w3 ⟨rfl, hb⟩
      have HB3 := hide (HB2.out.trans (hb.mono HB2.out.size)); clear hb
      go_wp2_with fail
      refine (toIntS_any _ r0 _ HR0.out (inRow_below HI0.out HB3.out)).mono ?_
      rintro e w4 ⟨px0, rfl, ho, hb⟩
      have Px0_4 := hide (rowC_own ho); have HB4 := hide (HB3.out.trans (hb.mono HB3.out.size)); clear ho hb
      go_wp2_with fail
      refine (toIntS_any _ r1 _ HR1.out (inRow_below HI1.out HB4.out)).mono ?_
      rintro e w5 ⟨px1, rfl, ho, hb⟩
      have Px0_5 := hide (rowC_below Px0_4.out hb); have Px1_5 := hide (rowC_own ho); have HB5 := hide (HB4.out.trans (hb.mono HB4.out.size)); clear ho hb
      go_wp2_with fail
      refine (HM.out px0 px1 _ Px0_5.out Px1_5.out).mono ?_
      rintro e w6 ⟨rfl, hb⟩
      have Px0_6 := hide (rowC_below Px0_5.out hb); have Px1_6 := hide (rowC_below Px1_5.out hb); have HB6 := hide (HB5.out.trans (hb.mono HB5.out.size)); clear hb
      have hv : (val != val) = false := by cases val <;> rfl
      go_wp2_with fail
      refine (toIntS_any _ r0 _ HR0.out (inRow_below HI0.out HB6.out)).mono ?_
      rintro e w7 ⟨py0, rfl, ho, hb⟩
      have Px0_7 := hide (rowC_below Px0_6.out hb); have Px1_7 := hide (rowC_below Px1_6.out hb); have Py0_7 := hide (rowC_own ho); have HB7 := hide (HB6.out.trans (hb.mono HB6.out.size)); clear ho hb
      go_wp2_with fail
      refine (eqIntS_same px0 py0 r0 _ Px0_7.out.1 Py0_7.out.1).mono ?_
      rintro e w8 ⟨rfl, hb⟩
      have Px1_8 := hide (rowC_below Px1_7.out hb); have HB8 := hide (HB7.out.trans (hb.mono HB7.out.size)); clear hb
      go_wp2_with fail
      refine (toIntS_any _ r1 _ HR1.out (inRow_below HI1.out HB8.out)).mono ?_
      rintro e w9 ⟨py1, rfl, ho, hb⟩
      have Px1_9 := hide (rowC_below Px1_8.out hb); have Py1_9 := hide (rowC_own ho); have HB9 := hide (HB8.out.trans (hb.mono HB8.out.size)); clear ho hb
      go_wp2_with fail
      refine (eqIntS_same px1 py1 r1 _ Px1_9.out.1 Py1_9.out.1).mono ?_
      rintro e w10 ⟨rfl, hb⟩
      have HB10 := hide (HB9.out.trans (hb.mono HB9.out.size)); clear hb
      go_wp2
      go_ret
      exact ⟨rfl, HB10.out⟩
theorem lawCanPlace_walk (a : Option Addr) (n c : Nat) (r : List Int) (b : Option Addr) (k d : Nat) (s : List Int) (y x v : Int) (w : World) (hin : InRow w (.slice a n c) r) (hin2 : InRow w (.slice b k d) s) (_ : (Lit.int .i64 y).wf = true) (_ : (Lit.int .i64 x).wf = true) (_ : (Lit.int .i64 v).wf = true) :
    Calls Try.prog 5 #[.slice a n c, .slice b k d, .int .i64 y, .int .i64 x, .int .i64 v] w fun e w' => e = .returned (.bool true) ∧ Below w.heap.size w w' :=
  lawCanPlace_gen a n c r b k d s y x v w hin hin2 (placeOf r s y x v) (fun _ _ p q w hp hq => specPlace_any p q r s y x v w hp hq) (fun _ _ p q w hp hq => implPlace_any p q r s y x v w hp.1 hq.1)
end Go.Proofs.Ytecfigjkcpbggaa
