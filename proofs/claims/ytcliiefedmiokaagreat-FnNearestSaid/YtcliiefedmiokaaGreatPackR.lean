/-
  Texts of this claim, one behind the other: GreedyP, BuiltP, Alike, Before, Draw.
-/
import Derived.Test.YtcliiefedmiokaaGreatPackK
import Derived.Test.YtcliiefedmiokaaGreatPackP
import Derived.Test.YtcliiefedmiokaaGreatPackI
/-
  The greedy construction: what is chosen can be continued; the image that is built has the sums.
-/
namespace Go.Proofs.YtcliiefedmiokaaGreat

theorem S_gt {n : Nat} {f g : Nat → Int} (h : Mx.S n g < Mx.S n f) : ∃ i, i < n ∧ g i < f i := by
  apply Classical.byContradiction
  intro hn
  have : Mx.S n f ≤ Mx.S n g := Mx.S_le n fun i hi => by
    apply Classical.byContradiction
    intro h2
    exact hn ⟨i, hi, by omega⟩
  omega
theorem S_upd {n : Nat} (f : Nat → Int) {k : Nat} (hk : k < n) (v : Int) : Mx.S n (fun i => if i = k then v else f i) = Mx.S n f + (v - f k) := by
  have h1 : Mx.S n (fun i => if i = k then v else f i) = Mx.S n fun i => f i + if i = k then v - f k else 0 := Mx.S_congr n fun i _ => by
    by_cases e : i = k
    · subst e; simp; omega
    · simp [e]
  rw [h1, Mx.S_add, Mx.S_pick hk]
/-- The greatest go first. -/
theorem top_ge {c : List Int} {n i j : Nat} (hi : i < c.length) (hj : j < c.length) (h8 : c.length ≤ 8) (h1 : topF c n i = 1) (h0 : topF c n j = 0) : c.getD j 0 ≤ c.getD i 0 := by
  have hmi : i ∈ (sortK c).take n := by
    unfold topF at h1
    by_cases e : i ∈ (sortK c).take n
    · exact e
    · rw [if_neg e] at h1; cases h1
  have hmj : j ∉ (sortK c).take n := by
    unfold topF at h0
    intro e
    rw [if_pos e] at h0; cases h0
  obtain ⟨a, ha, rfl⟩ := List.getElem_of_mem hmi
  obtain ⟨b, hb, rfl⟩ := List.getElem_of_mem (sortK_mem.2 hj)
  rw [List.getElem_take] at *
  rw [List.length_take] at ha
  have hab : a < b := by
    apply Classical.byContradiction
    intro h
    exact hmj (List.mem_iff_getElem.2 ⟨b, by rw [List.length_take]; omega, by rw [List.getElem_take]⟩)
  have := List.pairwise_iff_getElem.1 (sortK_desc c) a b (by omega) hb hab
  have hi8 : (sortK c)[a] < 8 := by omega
  have hj8 : (sortK c)[b] < 8 := by omega
  unfold keyF at this
  omega
theorem top_count {c : List Int} {n : Nat} (hn : n ≤ c.length) : Mx.S c.length (topF c n) = n := by
  induction n with
  | zero =>
    rw [Mx.S_congr (g := fun _ => 0) _ fun i _ => topF_zero c i, Mx.S_zero]; rfl
  | succ n ih =>
    have hk : n < (sortK c).length := by rw [sortK_len]; omega
    have hm : (sortK c)[n] < c.length := sortK_mem.1 (List.getElem_mem hk)
    rw [Mx.S_congr (g := fun x => if x = (sortK c)[n] then 1 else topF c n x) _ fun i _ => topF_succ hk i, S_upd _ hm, topF_next hk, ih (by omega)]
    omega
/-- How far a row is from the greedy one. -/
def farR (c : List Int) (n : Nat) (m : Nat → Int) : Int := Mx.S c.length fun x => if topF c n x = 1 ∧ m x = 0 then 1 else 0
theorem greedy_swap {a : Int} {r c : List Int} (h8 : c.length ≤ 8) {m : Nat → Nat → Int} (h : ImgF (a :: r) c m) {n : Nat} (ha : a = n) (hn : n ≤ c.length) (hd : 0 < farR c n (m 0)) :
    ∃ m', ImgF (a :: r) c m' ∧ farR c n (m' 0) < farR c n (m 0) := by
  have h0 := fun x (hx : x < c.length) => h.cell 0 x (Nat.succ_pos _) hx
  -- a column that is wanted and not there
  obtain ⟨i, hi, hi1⟩ : ∃ i, i < c.length ∧ (0 : Int) < if topF c n i = 1 ∧ m 0 i = 0 then 1 else 0 := S_gt (f := fun x => if topF c n x = 1 ∧ m 0 x = 0 then 1 else 0) (g := fun _ => 0) (by rw [Mx.S_zero]; exact hd)
  have hi2 : topF c n i = 1 ∧ m 0 i = 0 := by
    apply Classical.byContradiction
    intro e
    rw [if_neg e] at hi1; omega
  -- and one that is there and not wanted
  have hrow : Mx.S c.length (m 0) = n := by have := h.row 0 (Nat.succ_pos _); rw [this]; exact ha
  obtain ⟨j, hj, hj2⟩ : ∃ j, j < c.length ∧ topF c n j = 0 ∧ m 0 j = 1 := by
    apply Classical.byContradiction
    intro hno
    have hle : ∀ x, x < c.length → m 0 x ≤ topF c n x := fun x hx => by
      rcases h0 x hx with e | e <;> rcases top01 c n x with e2 | e2 <;> try omega
      exact absurd ⟨x, hx, e2, e⟩ hno
    have hlt : Mx.S c.length (m 0) < Mx.S c.length (topF c n) := by
      have h1 := Mx.S_le (f := fun x => m 0 x + if x = i then 1 else 0) (g := topF c n) c.length fun x hx => by
        by_cases e : x = i
        · subst e; simp; omega
        · simp [e]; exact hle x hx
      rw [Mx.S_add, Mx.S_pick hi] at h1
      omega
    rw [hrow, top_count hn] at hlt
    omega
  have hij : i ≠ j := fun e => by rw [e] at hi2; omega
  have hge := top_ge hi hj h8 hi2.1 hj2.1
  -- a row below that has i and not j
  have hci := h.col i hi; have hcj := h.col j hj
  rw [List.length_cons] at hci hcj
  obtain ⟨y, hy, hy1⟩ : ∃ y, y < r.length + 1 ∧ m y j < m y i ∧ y ≠ 0 := by
    apply Classical.byContradiction
    intro hno
    have hle := Mx.S_le (f := fun y => m y i + if y = 0 then 1 else 0) (g := fun y => m y j) (r.length + 1) fun y hy => by
      by_cases e : y = 0
      · subst e; simp; omega
      · simp only [e, if_false]
        apply Classical.byContradiction
        intro h2
        exact hno ⟨y, hy, by omega, e⟩
    rw [Mx.S_add, Mx.S_pick (Nat.succ_pos _), hci, hcj] at hle
    omega
  have hyi := h.cell y i (by simpa using hy) hi
  have hyj := h.cell y j (by simpa using hy) hj
  have hyi1 : m y i = 1 := by omega
  have hyj0 : m y j = 0 := by omega
  refine ⟨fun p q => if q = i then (if p = y then 0 else if p = 0 then 1 else m p q) else if q = j then (if p = y then 1 else if p = 0 then 0 else m p q) else m p q, ⟨fun p q hp hq => ?_, fun p hp => ?_, fun q hq => ?_⟩, ?_⟩
  · have := h.cell p q hp hq
    repeat' split
    all_goals omega
  · have h1 := h.row p hp
    by_cases e0 : p = 0
    · subst e0
      have e : Mx.S c.length (fun q => if q = i then (if (0 : Nat) = y then 0 else if (0 : Nat) = 0 then 1 else m 0 q) else if q = j then (if (0 : Nat) = y then 1 else if (0 : Nat) = 0 then 0 else m 0 q) else m 0 q) = Mx.S c.length fun q => if q = i then 1 else if q = j then 0 else m 0 q := Mx.S_congr _ fun q _ => by simp [Ne.symm hy1.2]
      rw [e, S_upd (fun q => if q = j then 0 else m 0 q) hi, S_upd (m 0) hj]
      simp [hij, hi2.2, hj2.2]; omega
    · by_cases ey : p = y
      · subst ey
        have e : Mx.S c.length (fun q => if q = i then (if p = p then 0 else if p = 0 then 1 else m p q) else if q = j then (if p = p then 1 else if p = 0 then 0 else m p q) else m p q) = Mx.S c.length fun q => if q = i then 0 else if q = j then 1 else m p q := Mx.S_congr _ fun q _ => by simp
        rw [e, S_upd (fun q => if q = j then 1 else m p q) hi, S_upd (m p) hj, h1]
        simp [hij, hyi1, hyj0]; omega
      · rw [← h1]
        exact Mx.S_congr _ fun q _ => by simp [e0, ey]
  · have h1 := h.col q hq
    by_cases ei : q = i
    · subst ei
      have e : Mx.S (a :: r).length (fun p => if q = q then (if p = y then 0 else if p = 0 then 1 else m p q) else if q = j then (if p = y then 1 else if p = 0 then 0 else m p q) else m p q) = Mx.S (a :: r).length fun p => if p = y then 0 else if p = 0 then 1 else m p q := Mx.S_congr _ fun p _ => by simp
      rw [e, S_upd (fun p => if p = 0 then 1 else m p q) (by simpa using hy), S_upd (fun p => m p q) (by simp), h1]
      simp [hy1.2, hyi1, hi2.2]; omega
    · by_cases ej : q = j
      · subst ej
        have e : Mx.S (a :: r).length (fun p => if q = i then (if p = y then 0 else if p = 0 then 1 else m p q) else if q = q then (if p = y then 1 else if p = 0 then 0 else m p q) else m p q) = Mx.S (a :: r).length fun p => if p = y then 1 else if p = 0 then 0 else m p q := Mx.S_congr _ fun p _ => by simp [ei]
        rw [e, S_upd (fun p => if p = 0 then 0 else m p q) (by simpa using hy), S_upd (fun p => m p q) (by simp), h1]
        simp [hy1.2, hyj0, hj2.2]; omega
      · rw [← h1]
        exact Mx.S_congr _ fun p _ => by simp [ei, ej]
  · have e : farR c n (fun q => if q = i then (if (0 : Nat) = y then 0 else if (0 : Nat) = 0 then 1 else m 0 q) else if q = j then (if (0 : Nat) = y then 1 else if (0 : Nat) = 0 then 0 else m 0 q) else m 0 q) = Mx.S c.length fun x => if x = i then 0 else if topF c n x = 1 ∧ m 0 x = 0 then 1 else 0 := Mx.S_congr _ fun x _ => by
      by_cases e1 : x = i
      · subst e1; simp [Ne.symm hy1.2]
      · by_cases e2 : x = j
        · subst e2; simp [e1, hj2.1, hj2.2]
        · simp [e1, e2]
    show farR c n (fun q => if q = i then (if (0 : Nat) = y then 0 else if (0 : Nat) = 0 then 1 else m 0 q) else if q = j then (if (0 : Nat) = y then 1 else if (0 : Nat) = 0 then 0 else m 0 q) else m 0 q) < farR c n (m 0)
    rw [e, S_upd (fun x => if topF c n x = 1 ∧ m 0 x = 0 then 1 else 0) hi]
    unfold farR
    simp [hi2]; omega
theorem greedy_all {a : Int} {r c : List Int} (h8 : c.length ≤ 8) {n : Nat} (ha : a = n) (hn : n ≤ c.length) : ∀ (d : Nat) (m : Nat → Nat → Int), ImgF (a :: r) c m → farR c n (m 0) ≤ d → ∃ m', ImgF (a :: r) c m' ∧ ∀ x, x < c.length → m' 0 x = topF c n x := by
  intro d
  induction d with
  | zero =>
    intro m h hd
    refine ⟨m, h, ?_⟩
    have hrow : Mx.S c.length (m 0) = n := by have := h.row 0 (Nat.succ_pos _); rw [this]; exact ha
    have hz : ∀ x, x < c.length → ¬ (topF c n x = 1 ∧ m 0 x = 0) := fun x hx e => by
      have := Mx.S_le (f := fun z => if z = x then 1 else 0) (g := fun z => if topF c n z = 1 ∧ m 0 z = 0 then 1 else 0) c.length fun z hz => by
        by_cases e2 : z = x
        · subst e2; simp [e]
        · simp [e2]; split <;> omega
      rw [Mx.S_pick hx] at this
      unfold farR at hd
      omega
    have hle : ∀ x, x < c.length → topF c n x ≤ m 0 x := fun x hx => by
      have h1 := hz x hx
      have h2 := h.cell 0 x (Nat.succ_pos _) hx
      have h3 := top01 c n x
      rcases h2 with e | e <;> rcases h3 with e2 | e2 <;> try omega
    intro x hx
    have e2 : Mx.S c.length (m 0) = Mx.S c.length (topF c n) := by rw [hrow, top_count hn]
    have h1 := Mx.S_le (f := fun z => topF c n z + if z = x then m 0 x - topF c n x else 0) (g := m 0) c.length fun z hz => by
      by_cases e : z = x
      · subst e; simp; omega
      · simp [e]; exact hle z hz
    rw [Mx.S_add, Mx.S_pick hx] at h1
    have := hle x hx
    omega
  | succ d ih =>
    intro m h hd
    by_cases h0 : 0 < farR c n (m 0)
    · obtain ⟨m', h1, h2⟩ := greedy_swap h8 h ha hn h0
      exact ih m' h1 (by omega)
    · exact ih m h (by omega)
end Go.Proofs.YtcliiefedmiokaaGreat
/-
  The images that are built: they have the sums, and the least one is the first in order.
-/
namespace Go.Proofs.YtcliiefedmiokaaGreat

/-- An image whose rows are chosen one after the other, out of what can stand there. -/
theorem imgL_img (ch : List Int → List Int → List Int) (hch : ∀ a r c, r.length ≤ 5 → (1 ≤ c.length ∧ c.length ≤ 5) → HasImg (a :: r) c → RowOf c.length a (ch (a :: r) c) ∧ HasImg r (subL c (ch (a :: r) c))) :
    ∀ (r c : List Int), r.length ≤ 5 → (1 ≤ c.length ∧ c.length ≤ 5) → HasImg r c → ∃ m, ImgF r c m ∧ imgL ch r c = listF r.length c.length m := by
  intro r
  induction r with
  | nil =>
    rintro c - - ⟨m, hm⟩
    exact ⟨m, hm, rfl⟩
  | cons a r ih =>
    intro c hr hc h
    rw [List.length_cons] at hr
    obtain ⟨h1, h2⟩ := hch a r c (by omega) hc h
    obtain ⟨m, hm, he⟩ := ih (subL c (ch (a :: r) c)) (by omega) (by rw [subL_len]; exact hc) h2
    have hself := rowOf_self h1
    refine ⟨fun y x => match y with | 0 => (ch (a :: r) c).getD x 0 | y + 1 => m y x, (img_cons a r c _).2 ⟨?_, ?_⟩, ?_⟩
    · rw [← hself]; exact h1
    · rw [← hself]; exact hm
    · rw [imgL, List.length_cons, listF_succ, ← hself, he, subL_len]
theorem S_le_len {n : Nat} {f : Nat → Int} (h : ∀ i, i < n → f i = 0 ∨ f i = 1) : 0 ≤ Mx.S n f ∧ Mx.S n f ≤ n := by
  induction n with
  | zero => exact ⟨Int.le_refl _, Int.le_refl _⟩
  | succ n ih =>
    have h1 := ih fun i hi => h i (Nat.lt_succ_of_lt hi)
    rw [Mx.S]
    rcases h n (Nat.lt_succ_self n) with e | e <;> rw [e] <;> omega
theorem greedy_ok (a : Int) (r c : List Int) (_ : r.length ≤ 5) (hc : 1 ≤ c.length ∧ c.length ≤ 5) (h : HasImg (a :: r) c) : RowOf c.length a (greedyCh (a :: r) c) ∧ HasImg r (subL c (greedyCh (a :: r) c)) := by
  obtain ⟨m, hm⟩ := h
  have h1 := S_le_len (n := c.length) (f := m 0) fun x hx => hm.cell 0 x (Nat.succ_pos _) hx
  have h2 := hm.row 0 (Nat.succ_pos _)
  have h3 : (a :: r).getD 0 0 = a := rfl
  rw [h2, h3] at h1
  obtain ⟨m', g1, g2⟩ := greedy_all (a := a) (r := r) (c := c) (by omega) (n := a.toNat) (by omega) (by omega) (farR c a.toNat (m 0)).toNat m hm (by omega)
  have e : tabL c.length (m' 0) = greedyCh (a :: r) c := tabL_congr fun x hx => g2 x hx
  obtain ⟨k1, k2⟩ := (img_cons a r c m').1 g1
  rw [e] at k1 k2
  exact ⟨k1, _, k2⟩
/-- The built image. -/
theorem built_img {r c : List Int} (hr : r.length ≤ 5) (hc : 1 ≤ c.length ∧ c.length ≤ 5) (h : HasImg r c) : ∃ m, ImgF r c m ∧ imgL greedyCh r c = listF r.length c.length m := imgL_img greedyCh greedy_ok r c hr hc h
theorem least_img {r c : List Int} (hr : r.length ≤ 5) (hc : 1 ≤ c.length ∧ c.length ≤ 5) (h : HasImg r c) : ∃ m, ImgF r c m ∧ imgL leastCh r c = listF r.length c.length m := imgL_img leastCh (fun _ _ _ h1 h2 h3 => leastCh_spec h1 h2 h3) r c hr hc h

/-- The order of rows, and of lists of rows. -/
def lessL : List Int → List Int → Bool
  | x :: a, y :: b => if x = y then lessL a b else decide (x < y)
  | _, _ => false
def beforeL : List (List Int) → List (List Int) → Bool
  | r :: a, s :: b => if r = s then beforeL a b else lessL r s
  | _, _ => false
theorem rowsLn_up : ∀ (n : Nat) (k : Int), (rowsLn n k).Pairwise fun u v => lessL v u = false
  | 0, k => by unfold rowsLn; split <;> simp
  | n + 1, k => by
    unfold rowsLn
    rw [List.pairwise_append]
    have hm : ∀ (z : Int) (l : List (List Int)), (l.Pairwise fun u v => lessL v u = false) → (l.map (z :: ·)).Pairwise fun u v => lessL v u = false := fun z l h => by
      rw [List.pairwise_map]
      exact h.imp fun h => by simp [lessL, h]
    refine ⟨?_, ?_, fun u hu v hv => ?_⟩
    · split
      · exact hm _ _ (rowsLn_up n k)
      · exact List.Pairwise.nil
    · split
      · exact hm _ _ (rowsLn_up n (k - 1))
      · exact List.Pairwise.nil
    · split at hu
      · split at hv
        · obtain ⟨u', -, rfl⟩ := List.mem_map.1 hu
          obtain ⟨v', -, rfl⟩ := List.mem_map.1 hv
          simp [lessL]
        · cases hv
      · cases hu
theorem least_first : ∀ (r c : List Int), r.length ≤ 5 → (1 ≤ c.length ∧ c.length ≤ 5) → HasImg r c → ∀ m ∈ allL r c, beforeL m (imgL leastCh r c) = false
  | [], c, _, _, _, m, hm => by
    rw [show m = [] by simpa [allL] using hm]; rfl
  | a :: r, c, hr, hc, h, m, hm => by
    rw [List.length_cons] at hr
    unfold allL at hm
    obtain ⟨row, hrow, hm⟩ := List.mem_flatMap.1 hm
    by_cases hb : restB r (subL c row) = true
    · rw [if_pos hb] at hm
      obtain ⟨m', hm', rfl⟩ := List.mem_map.1 hm
      have hmem : row ∈ firstRows a r c := List.mem_filter.2 ⟨hrow, hb⟩
      rw [imgL]
      unfold beforeL
      by_cases e : row = leastCh (a :: r) c
      · rw [if_pos e, ← e]
        exact least_first r (subL c row) (by omega) (by rw [subL_len]; exact hc) ((restB_iff (by omega) (by rw [subL_len]; exact hc)).1 hb) m' hm'
      · rw [if_neg e]
        have hup : (firstRows a r c).Pairwise fun u v => lessL v u = false := (rowsLn_up c.length a).filter _
        have hhd : leastCh (a :: r) c = (firstRows a r c).headD [] := rfl
        cases hl : firstRows a r c with
        | nil => rw [hl] at hmem; cases hmem
        | cons z l =>
          rw [hl] at hmem hup hhd
          have hz : leastCh (a :: r) c = z := hhd
          rw [hz] at e ⊢
          rcases List.mem_cons.1 hmem with e2 | h2
          · exact absurd e2 e
          · exact (List.pairwise_cons.1 hup).1 row h2
    · rw [if_neg hb] at hm; cases hm
end Go.Proofs.YtcliiefedmiokaaGreat
/-
  The helpers of the laws that are no exact ones: same, alike.
-/
namespace Go.Proofs.YtcliiefedmiokaaGreat
open Go.RowKit
set_option maxHeartbeats 1000000 in
theorem same_any (va vb : Value) (r s : List Int) (w : World) (ha : InRow w va r) (hb : InRow w vb s) :
    Calls Tryz.prog 53 #[va, vb] w fun e w' => e = .returned (.bool (r == s)) ∧ w = w' := by
  obtain ⟨a, ca, rfl, hma, hpa⟩ := ha
  obtain ⟨b, cb, rfl, hmb, hpb⟩ := hb
  unfold maxLen at hma hmb
  by_cases hlen : r.length = s.length
  · by_cases h0 : r.length = 0
    · have hr : r = [] := List.eq_nil_of_length_eq_zero h0
      have hs : s = [] := List.eq_nil_of_length_eq_zero (by omega)
      subst hr; subst hs
      clear hpa hpb hma hmb hlen h0
      go_enter Tryz.func53, Tryz.ntmps53
      go_wp2
      go_loop [14] (fun i => i = .int .i64 0) (fun _ => 0)
      case atStart => rfl
      case round =>
        obtain rfl := hrel
        go_wp2
        go_ret
        exact ⟨rfl, rfl⟩
    · obtain ⟨ga, oa, rfl, -, hca⟩ := hpa.resolve_left h0
      obtain ⟨gb, ob, rfl, -, hcb⟩ := hpb.resolve_left (by omega)
      have HA := hide hca; have HB := hide hcb; have HL := hide hlen
      obtain ⟨n, hn⟩ : ∃ n, n = r.length := ⟨_, rfl⟩
      have HN := hide hn
      have HM : Hid (s.length = n) := hide (by omega)
      rw [← hlen, ← hn]
      rw [← hn] at hma
      clear hpa hpb hca hcb h0 hmb hlen hn
      go_enter Tryz.func53, Tryz.ntmps53
      go_wp2
      go_loop [14] (fun i => ∃ k : Nat, k ≤ n ∧ i = .int .i64 k ∧ ∀ t, (h1 : t < r.length) → (h2 : t < s.length) → t < k → r[t] = s[t]) (fun i => n - (intOf i).toNat)
      case atStart => exact ⟨0, Nat.zero_le _, rfl, fun t _ _ h => absurd h (Nat.not_lt_zero _)⟩
      case round =>
        obtain ⟨k, hk, rfl, hall⟩ := hrel
        have HH := hide hall
        clear hall
        by_cases hlt : k < n
        · have hkr : k < r.length := by rw [← HN.out]; exact hlt
          have hks : k < s.length := by rw [HM.out]; exact hlt
          have hxa := HA.out k hkr
          have hxb := HB.out k hks
          have HNO := hide (fun h => sameRow_no2 k hkr hks h)
          have HST : Hid (r[k] = s[k] → ∀ t, (h1 : t < r.length) → (h2 : t < s.length) → t < k + 1 → r[t] = s[t]) := hide fun h t h1 h2 ht => by
            by_cases e : t = k
            · subst e; exact h
            · exact HH.out t h1 h2 (by omega)
          obtain ⟨x, hx⟩ : ∃ x, x = r[k] := ⟨_, rfl⟩
          obtain ⟨y, hy⟩ : ∃ y, y = s[k] := ⟨_, rfl⟩
          rw [← hx, ← hy] at HNO HST
          rw [← hx] at hxa
          rw [← hy] at hxb
          clear hx hy
          by_cases e : x = y
          · subst e
            have HST := hide (HST.out rfl)
            go_wp2
            go_round
            case rel => exact ⟨k + 1, by omega, by go_num, HST.out⟩
            case measure => simp [intOf]; omega
          · have HF := hide (HNO.out e)
            have hne : (x == y) = false := by simpa using e
            have hne2 : (x != y) = true := by simpa using e
            clear e
            go_wp2
            go_ret
            exact ⟨ret_bool HF.out.symm, rfl⟩
        · have HY := hide (sameRow_yes HL.out fun t h1 h2 => HH.out t h1 h2 (by have := HN.out; omega))
          go_wp2
          go_ret
          exact ⟨ret_bool HY.out.symm, rfl⟩
  · have HF := hide (sameRow_no hlen)
    obtain ⟨n, hn⟩ : ∃ n, n = r.length := ⟨_, rfl⟩
    obtain ⟨k, hk⟩ : ∃ k, k = s.length := ⟨_, rfl⟩
    rw [← hn, ← hk] at hlen ⊢
    rw [← hn] at hma
    rw [← hk] at hmb
    have hne : ((n : Int) == (k : Int)) = false := by simp; omega
    have hne2 : ((n : Int) != (k : Int)) = true := by simp; omega
    clear hpa hpb hn hk hlen
    go_enter Tryz.func53, Tryz.ntmps53
    go_wp2
    go_ret
    exact ⟨ret_bool HF.out.symm, rfl⟩


set_option maxHeartbeats 1000000 in
theorem alike_any (va vb : Value) (m l : List (List Int)) (w : World) (ha : InMat w va m) (hb : InMat w vb l) :
    Calls Tryz.prog 26 #[va, vb] w fun e w' => e = .returned (.bool (m == l)) ∧ Below w.heap.size w w' := by
  obtain ⟨a, ca, rfl, hma, hpa⟩ := ha
  obtain ⟨b, cb, rfl, hmb, hpb⟩ := hb
  unfold maxLen at hma hmb
  by_cases hlen : m.length = l.length
  · by_cases h0 : m.length = 0
    · have hr : m = [] := List.eq_nil_of_length_eq_zero h0
      have hs : l = [] := List.eq_nil_of_length_eq_zero (by omega)
      subst hr; subst hs
      clear hpa hpb hma hmb hlen h0
      go_enter Tryz.func26, Tryz.ntmps26
      go_wp2
      go_loop [14] (fun i => i = .int .i64 0) (fun _ => 0)
      case atStart => rfl
      case round =>
        obtain rfl := hrel
        go_wp2
        go_ret
        exact ⟨rfl, Below.refl _ _⟩
    · obtain ⟨ga, oa, rfl, hga, hca⟩ := hpa.resolve_left h0
      obtain ⟨gb, ob, rfl, hgb, hcb⟩ := hpb.resolve_left (by omega)
      have HA := hide hca; have HB := hide hcb; have HL := hide hlen
      obtain ⟨n, hn⟩ : ∃ n, n = m.length := ⟨_, rfl⟩
      have HN := hide hn
      have HM : Hid (l.length = n) := hide (by omega)
      rw [← hlen, ← hn]
      rw [← hn] at hma
      clear hpa hpb hca hcb h0 hmb hlen hn
      go_enter Tryz.func26, Tryz.ntmps26
      go_wp2
      go_loopw [14] (fun i w' => ∃ k : Nat, k ≤ n ∧ i = .int .i64 k ∧ (∀ t, (h1 : t < m.length) → (h2 : t < l.length) → t < k → (m[t] == l[t]) = true) ∧ Below w.heap.size w w') (fun i _ => n - (intOf i).toNat)
      case atStart => exact ⟨0, Nat.zero_le _, rfl, fun t _ _ h => absurd h (Nat.not_lt_zero _), Below.refl _ _⟩
      case round =>
        obtain ⟨k, hk, rfl, hall, hbb⟩ := hrel
        have HH := hide hall; have HBB := hide hbb
        clear hall hbb
        by_cases hlt : k < n
        · have hkr : k < m.length := by rw [← HN.out]; exact hlt
          have hks : k < l.length := by rw [HM.out]; exact hlt
          obtain ⟨ua, hxa, hra⟩ := HA.out k hkr
          obtain ⟨ub, hxb, hrb⟩ := HB.out k hks
          have hxa := below_cell HBB.out hga hxa
          have hxb := below_cell HBB.out hgb hxb
          have HRA := hide (inRow_below hra HBB.out)
          have HRB := hide (inRow_below hrb HBB.out)
          have HNO := hide (fun h => sameMat_no2 k hkr hks h)
          have HST : Hid ((m[k] == l[k]) = true → ∀ t, (h1 : t < m.length) → (h2 : t < l.length) → t < k + 1 → (m[t] == l[t]) = true) := hide fun h t h1 h2 ht => by
            by_cases e : t = k
            · subst e; exact h
            · exact HH.out t h1 h2 (by omega)
          clear hra hrb
          cases e : (m[k] == l[k]) with
          | true =>
            have HE := hide e
            have HST := hide (HST.out e)
            clear e
            go_wp2_with (go_at_call 53; refine (same_any _ _ _ _ _ HRA.out HRB.out).mono ?_; rw [HE.out]; rintro e w9 ⟨rfl, rfl⟩)
            go_roundw
            case rel => exact ⟨k + 1, by omega, by go_num, HST.out, HBB.out⟩
            case measure => simp [intOf]; omega
          | false =>
            have HE := hide e
            have HF := hide (HNO.out e)
            clear e
            go_wp2_with (go_at_call 53; refine (same_any _ _ _ _ _ HRA.out HRB.out).mono ?_; rw [HE.out]; rintro e w9 ⟨rfl, rfl⟩)
            go_ret
            exact ⟨ret_bool HF.out.symm, HBB.out⟩
        · have HY := hide (sameMat_yes HL.out fun t h1 h2 => HH.out t h1 h2 (by have := HN.out; omega))
          go_wp2
          go_ret
          exact ⟨ret_bool HY.out.symm, HBB.out⟩
  · have HF := hide (sameMat_no hlen)
    obtain ⟨n, hn⟩ : ∃ n, n = m.length := ⟨_, rfl⟩
    obtain ⟨k, hk⟩ : ∃ k, k = l.length := ⟨_, rfl⟩
    rw [← hn, ← hk] at hlen ⊢
    rw [← hn] at hma
    rw [← hk] at hmb
    have hne : ((n : Int) == (k : Int)) = false := by simp; omega
    have hne2 : ((n : Int) != (k : Int)) = true := by simp; omega
    clear hpa hpb hn hk hlen
    go_enter Tryz.func26, Tryz.ntmps26
    go_wp2
    go_ret
    exact ⟨ret_bool HF.out.symm, Below.refl _ _⟩

theorem alike_yes (va vb : Value) (m : List (List Int)) (w : World) (ha : InMat w va m) (hb : InMat w vb m) :
    Calls Tryz.prog 26 #[va, vb] w fun e w' => e = .returned (.bool true) ∧ Below w.heap.size w w' := by
  have h := alike_any va vb m m w ha hb
  rw [beq_self_eq_true] at h; exact h
end Go.Proofs.YtcliiefedmiokaaGreat
/-
  The laws' order of grids.
-/
namespace Go.Proofs.YtcliiefedmiokaaGreat
open Go.RowKit
set_option maxRecDepth 100000

theorem drop_at {α : Type} {l : List α} {k : Nat} (h : k < l.length) : l.drop k = l[k] :: l.drop (k + 1) := List.drop_eq_getElem_cons h
theorem lessL_nil (b : List Int) : lessL [] b = false := by unfold lessL; rfl
theorem lessL_at {r s : List Int} {k : Nat} (hr : k < r.length) (hs : k < s.length) : lessL (r.drop k) (s.drop k) = if r[k] = s[k] then lessL (r.drop (k + 1)) (s.drop (k + 1)) else decide (r[k] < s[k]) := by
  rw [drop_at hr, drop_at hs, lessL]
theorem beforeL_at {r s : List (List Int)} {k : Nat} (hr : k < r.length) (hs : k < s.length) : beforeL (r.drop k) (s.drop k) = if r[k] = s[k] then beforeL (r.drop (k + 1)) (s.drop (k + 1)) else lessL r[k] s[k] := by
  rw [drop_at hr, drop_at hs, beforeL]
set_option maxHeartbeats 1000000 in
theorem less_any (va vb : Value) (r s : List Int) (w : World) (ha : InRow w va r) (hb : InRow w vb s) (hlen : r.length = s.length) (hn : 1 ≤ r.length ∧ r.length ≤ 5) :
    Calls Tryz.prog 54 #[va, vb] w fun e w' => e = .returned (.bool (lessL r s)) ∧ w = w' := by
  obtain ⟨a, ca, rfl, hma, hpa⟩ := ha
  obtain ⟨b, cb, rfl, hmb, hpb⟩ := hb
  unfold maxLen at hma hmb
  obtain ⟨ga, oa, rfl, -, hca⟩ := hpa.resolve_left (by omega)
  obtain ⟨gb, ob, rfl, -, hcb⟩ := hpb.resolve_left (by omega)
  have HA := hide hca; have HB := hide hcb
  have HAT := hide fun k (h1 : k < r.length) (h2 : k < s.length) => lessL_at h1 h2
  have HE : Hid (∀ k, r.length ≤ k → lessL (r.drop k) (s.drop k) = false) := hide fun k hk => by rw [List.drop_of_length_le hk]; exact lessL_nil _
  obtain ⟨n, hnn⟩ : ∃ n, n = r.length := ⟨_, rfl⟩
  have HN := hide hnn
  have HM : Hid (s.length = n) := hide (by omega)
  rw [← hlen, ← hnn]
  rw [← hnn] at hma hn
  clear hpa hpb hca hcb hmb hlen hnn
  go_enter Tryz.func54, Tryz.ntmps54
  go_wp2
  go_loop [9] (fun i => ∃ k : Nat, k ≤ n ∧ i = .int .i64 k ∧ lessL r s = lessL (r.drop k) (s.drop k)) (fun i => n - (intOf i).toNat)
  case atStart => exact ⟨0, Nat.zero_le _, rfl, by rw [List.drop_zero, List.drop_zero]⟩
  case round =>
    obtain ⟨k, hk, rfl, hall⟩ := hrel
    have HH := hide hall
    clear hall
    by_cases hlt : k < n
    · have hkr : k < r.length := by rw [← HN.out]; exact hlt
      have hks : k < s.length := by rw [HM.out]; exact hlt
      have hxa := HA.out k hkr
      have hxb := HB.out k hks
      have HST := hide (HAT.out k hkr hks)
      obtain ⟨x, hx⟩ : ∃ x, x = r[k] := ⟨_, rfl⟩
      obtain ⟨y, hy⟩ : ∃ y, y = s[k] := ⟨_, rfl⟩
      rw [← hx, ← hy] at HST
      rw [← hx] at hxa
      rw [← hy] at hxb
      have hltI : (k : Int) < (n : Int) := by omega
      clear hx hy
      by_cases e : x = y
      · subst e
        have HF := hide (HH.out.trans (HST.out.trans (if_pos rfl)))
        go_wp2
        go_round
        case rel => exact ⟨k + 1, by omega, by go_num, HF.out⟩
        case measure => simp [intOf]; omega
      · have HF := hide (HH.out.trans (HST.out.trans (if_neg e)))
        have hne2 : (x != y) = true := by simpa using e
        clear e
        go_wp2
        go_ret
        exact ⟨ret_bool HF.out.symm, rfl⟩
    · have HF := hide (HH.out.trans (HE.out k (by have := HN.out; omega)))
      go_wp2
      go_ret
      exact ⟨ret_bool HF.out.symm, rfl⟩
set_option maxHeartbeats 1000000 in
theorem before_any2 (va vb : Value) (m l : List (List Int)) (C : Nat) (w : World) (ha : InMat w va m) (hb : InMat w vb l) (hlen : m.length = l.length) (hn : 1 ≤ m.length ∧ m.length ≤ 5) (hC : 1 ≤ C ∧ C ≤ 5) (hmc : ∀ q ∈ m, q.length = C) (hlc : ∀ q ∈ l, q.length = C) :
    Calls Tryz.prog 18 #[va, vb] w fun e w' => e = .returned (.bool (beforeL m l)) ∧ w = w' := by
  obtain ⟨a, ca, rfl, hma, hpa⟩ := ha
  obtain ⟨b, cb, rfl, hmb, hpb⟩ := hb
  unfold maxLen at hma hmb
  obtain ⟨ga, oa, rfl, hga, hca⟩ := hpa.resolve_left (by omega)
  obtain ⟨gb, ob, rfl, hgb, hcb⟩ := hpb.resolve_left (by omega)
  have HA := hide hca; have HB := hide hcb
  have HAT := hide fun k (h1 : k < m.length) (h2 : k < l.length) => beforeL_at h1 h2
  have HE : Hid (∀ k, m.length ≤ k → beforeL (m.drop k) (l.drop k) = false) := hide fun k hk => by rw [List.drop_of_length_le hk]; unfold beforeL; rfl
  have HMC := hide hmc; have HLC := hide hlc
  obtain ⟨n, hnn⟩ : ∃ n, n = m.length := ⟨_, rfl⟩
  have HN := hide hnn
  have HM : Hid (l.length = n) := hide (by omega)
  rw [← hlen, ← hnn]
  rw [← hnn] at hma hn
  clear hpa hpb hca hcb hmb hlen hnn hmc hlc
  go_enter Tryz.func18, Tryz.ntmps18
  go_wp2
  go_loop [9] (fun i => ∃ k : Nat, k ≤ n ∧ i = .int .i64 k ∧ beforeL m l = beforeL (m.drop k) (l.drop k)) (fun i => n - (intOf i).toNat)
  case atStart => exact ⟨0, Nat.zero_le _, rfl, by rw [List.drop_zero, List.drop_zero]⟩
  case round =>
    obtain ⟨k, hk, rfl, hall⟩ := hrel
    have HH := hide hall
    clear hall
    by_cases hlt : k < n
    · have hkr : k < m.length := by rw [← HN.out]; exact hlt
      have hks : k < l.length := by rw [HM.out]; exact hlt
      obtain ⟨ua, hxa, hra⟩ := HA.out k hkr
      obtain ⟨ub, hxb, hrb⟩ := HB.out k hks
      have HST := hide (HAT.out k hkr hks)
      have hl1 := HMC.out _ (List.getElem_mem hkr)
      have hl2 := HLC.out _ (List.getElem_mem hks)
      obtain ⟨x, hx⟩ : ∃ x, x = m[k] := ⟨_, rfl⟩
      obtain ⟨y, hy⟩ : ∃ y, y = l[k] := ⟨_, rfl⟩
      rw [← hx, ← hy] at HST
      rw [← hx] at hra hl1
      rw [← hy] at hrb hl2
      have HRA := hide hra; have HRB := hide hrb
      have HLS := hide (less_any ua ub x y w hra hrb (by omega) (by omega))
      have hltI : (k : Int) < (n : Int) := by omega
      clear hx hy hra hrb hl1 hl2
      cases e : (x == y) with
      | true =>
        have HEE := hide e
        have HF := hide (HH.out.trans (HST.out.trans (if_pos (eq_of_beq e))))
        clear e
        go_wp2_with (go_at_call 53; refine (same_any _ _ _ _ _ HRA.out HRB.out).mono ?_; rw [HEE.out]; rintro e w9 ⟨rfl, rfl⟩)
        go_round
        case rel => exact ⟨k + 1, by omega, by go_num, HF.out⟩
        case measure => simp [intOf]; omega
      | false =>
        have HEE := hide e
        have HF := hide (HH.out.trans (HST.out.trans (if_neg (ne_of_beq_false e))))
        clear e
        go_wp2_with (first | (go_at_call 53; refine (same_any _ _ _ _ _ HRA.out HRB.out).mono ?_; rw [HEE.out]; rintro e w9 ⟨rfl, rfl⟩) | (go_at_call 54; refine HLS.out.mono ?_; rintro e w9 ⟨rfl, rfl⟩))
        go_ret
        exact ⟨ret_bool HF.out.symm, rfl⟩
    · have HF := hide (HH.out.trans (HE.out k (by have := HN.out; omega)))
      go_wp2
      go_ret
      exact ⟨ret_bool HF.out.symm, rfl⟩
end Go.Proofs.YtcliiefedmiokaaGreat
/-
  The images that the laws draw: l02Draw, MakeImage, MakeSized.
-/
namespace Go.Proofs.YtcliiefedmiokaaGreat
open Go.RowKit

theorem curAt_within {w w' : World} {B n : Nat} {a : Option Addr} (h : CurAt w B a n) (hb : w'.heap[B]? = w.heap[B]?) : CurAt w' B a n := by
  obtain ⟨c, i, k, h1, h2, h3⟩ := h
  exact ⟨c, i, k, by rw [hb]; exact h1, h2, h3⟩
theorem curAt_lt {w : World} {B n : Nat} {a : Option Addr} (h : CurAt w B a n) : B < w.heap.size := by
  obtain ⟨c, i, k, h1, -⟩ := h
  exact (Array.getElem?_eq_some_iff.1 h1).1
theorem curAt_below {w w' : World} {B n : Nat} {a : Option Addr} (h : CurAt w B a n) (hb : Below w.heap.size w w') : CurAt w' B a n := curAt_within h (hb.block B (curAt_lt h))
theorem ownMat_cur {w w' : World} {lo hi B : Nat} {v : Value} {m : List (List Int)} (h : OwnMat w lo hi v m) (hg : w.grownBy w' (some B)) (hB : B < lo) : OwnMat w' lo hi v m :=
  ownMat_within h (within_grown (lo := B) (hi := B + 1) hg fun k hk => by cases hk; exact ⟨Nat.le_refl _, Nat.lt_succ_self _⟩) (.inr hB)
theorem grown_undrew {w w' : World} {row : Option Nat} (h : w.drew.grownBy w' row) : w.grownBy w' row := ⟨h.os, h.tape, h.output, h.size, h.block⟩
theorem cells_kept {w w' : World} {B gv y gr x : Nat} {u z : Value} (h : w.drew.grownBy w' (some B)) (h1 : w.cell? ⟨gv, y, none⟩ = some u) (h2 : w.cell? ⟨gr, x, none⟩ = some z) (h3 : w.frozen? ⟨gr, x, none⟩ = false) (n1 : gv ≠ B) (n2 : gr ≠ B) :
    w'.cell? ⟨gv, y, none⟩ = some u ∧ w'.cell? ⟨gr, x, none⟩ = some z ∧ w'.frozen? ⟨gr, x, none⟩ = false := by
  have hg := grown_undrew h
  refine ⟨hg.cell h1 (by simpa using n1), hg.cell h2 (by simpa using n2), ?_⟩
  have hlt : gr < w.heap.size := World.block_lt_of_cell? w _ h2
  rw [World.frozen?_of_block (w := w) (a := ⟨gr, x, none⟩) (hg.block gr hlt (by simpa using n2))]; exact h3
theorem img_upd {R C : Nat} {f : Nat → Nat → Int} (h : Img R C f) (y x : Nat) {z : Int} (hz : z = 0 ∨ z = 1) : Img R C fun a b => if a = y ∧ b = x then z else f a b :=
  ⟨h.r1, h.r2, h.c1, h.c2, fun a b ha hb => by
    show (if a = y ∧ b = x then z else f a b) = 0 ∨ (if a = y ∧ b = x then z else f a b) = 1
    split
    · exact hz
    · exact h.cell a b ha hb⟩

theorem ownMat_apart {w : World} {lo hi g n c g' n' c' : Nat} {m : List (List Int)} (h : OwnMat w lo hi (.slice (some ⟨g, 0, none⟩) n c) m) (i : Nat) (h' : i < m.length) (hc : w.cell? ⟨g, i, none⟩ = some (.slice (some ⟨g', 0, none⟩) n' c')) : g ≠ g' := by
  obtain ⟨vs, ho, -, hr, -⟩ := h
  have hn : n = m.length := by
    rcases ho.2 with ⟨e, _⟩ | ⟨g2, cap, cur, e, _⟩
    · cases e
    · cases e; rfl
  subst hn
  have h1 := cell_held ho h'
  rw [hc, Option.some.injEq] at h1
  rcases own_types ho (hr i h').1 (by decide) with e | e
  · cases e
  · rw [← h1] at e
    simpa [Value.ownBlock] using e
/-- What the laws draw: some image; the cursor in its place; nothing below it touched. -/
def DrawnImg (w : World) (B : Nat) (a : Option Addr) (n : Nat) (e : Ending) (w' : World) : Prop :=
  ∃ (v : Value) (R C : Nat) (f : Nat → Nat → Int), e = .returned v ∧ Img R C f ∧ OwnMat w' w.heap.size w'.heap.size v (mkM R C f) ∧ CurAt w' B a n ∧ Below B w w'

/-- And it is of the size asked. -/
def DrawnMost (most : Nat) (w : World) (B : Nat) (a : Option Addr) (n : Nat) (e : Ending) (w' : World) : Prop :=
  ∃ (v : Value) (R C : Nat) (f : Nat → Nat → Int), e = .returned v ∧ Img R C f ∧ (R ≤ most ∧ C ≤ most) ∧ OwnMat w' w.heap.size w'.heap.size v (mkM R C f) ∧ CurAt w' B a n ∧ Below B w w'
set_option maxRecDepth 100000 in
set_option maxHeartbeats 1000000 in
theorem l02Draw_most (B n : Nat) (a : Option Addr) (most : Nat) (w : World) (base : Nat) (hm0 : 1 ≤ most) (hm1 : most ≤ 5) (hc : CurAt w B a n) (hin : InBytes w base a n) (hbase : base ≤ B) :
    Calls Tryz.prog 41 #[.pointer (some ⟨B, 0, none⟩), .int .i64 most] w (DrawnMost most w B a n) := by
  have HC := hide hc; have HI := hide hin
  have hBw := curAt_lt hc
  clear hc hin
  go_enter Tryz.func41, Tryz.ntmps41
  go_wp2_with fail
  refine (l01Below_any B n a most _ base (by omega) (by omega) HC.out HI.out hbase).mono ?_
  rintro e w1 ⟨x1, hx10, hx11, rfl, hc1, hg1⟩
  have HC1 := hide hc1; have HI1 := hide (inBytes_grown HI.out hg1 hbase); have HG1 := hide hg1
  clear hc1 hg1
  go_wp2_with fail
  refine (l01Below_any B n a most _ base (by omega) (by omega) HC1.out HI1.out hbase).mono ?_
  rintro e w2 ⟨x2, hx20, hx21, rfl, hc2, hg2⟩
  have HC2 := hide hc2; have HI2 := hide (inBytes_grown HI1.out hg2 hbase); have HG2 := hide (grown_trans HG1.out hg2)
  clear hc2 hg2
  obtain ⟨R, hR⟩ : ∃ R : Nat, 1 + x1 = R := ⟨(1 + x1).toNat, by omega⟩
  obtain ⟨C, hC⟩ : ∃ C : Nat, 1 + x2 = C := ⟨(1 + x2).toNat, by omega⟩
  have HMOST : Hid (R ≤ most ∧ C ≤ most) := hide (by omega)
  have hR5 : 1 ≤ R ∧ R ≤ 5 := by omega
  have hC5 : 1 ≤ C ∧ C ≤ 5 := by omega
  obtain rfl : x1 = R - 1 := by omega
  obtain rfl : x2 = C - 1 := by omega
  have k1 : 1 + ((R : Int) - 1) = R := by omega
  have k2 : 1 + ((C : Int) - 1) = C := by omega
  clear hR hC
  go_wp2_with fail
  refine (l02Empty_any R C _ hR5.2 hC5.2).mono ?_
  rintro e w3 ⟨v3, rfl, o3, b3⟩
  clear k1 k2
  obtain ⟨gv, cv, rfl⟩ := ownMat_some o3 (by rw [mkM_len]; omega)
  rw [mkM_len] at *
  have hs2 := HG2.out.size
  have B3 := hide ((grown_below HG2.out (fun k hk => by cases hk; exact Nat.le_refl B) (by omega) : Below B w w2).trans (b3.mono (by omega)))
  have C3 := hide (curAt_below HC2.out b3)
  have I3 := hide (inBytes_below HI2.out (b3.mono (by have := HI2.out.2.1; omega)))
  have O3 := hide (ownMat_mono o3 hs2 (Nat.le_refl _))
  have IM3 := hide (img_zero hR5 hC5)
  obtain ⟨hi, hhi⟩ : ∃ hi, hi = w3.heap.size := ⟨_, rfl⟩
  have hge : hi ≤ w3.heap.size := by omega
  rw [← hhi] at O3
  clear HG2 HC2 HI2 HC1 HI1 HG1 o3 b3 hhi
  go_wp2
  go_loopw [19] (fun i w' => ∃ (y : Nat) (f : Nat → Nat → Int), y ≤ R ∧ i = .int .i64 y ∧ Img R C f ∧ hi ≤ w'.heap.size ∧ OwnMat w' w.heap.size hi (.slice (some ⟨gv, 0, none⟩) R cv) (mkM R C f) ∧ CurAt w' B a n ∧ InBytes w' base a n ∧ Below B w w') (fun i _ => R - (intOf i).toNat)
  case atStart => exact ⟨0, zeroM, by omega, rfl, IM3.out, hge, O3.out, C3.out, I3.out, B3.out⟩
  case round =>
    clear B3 C3 I3 O3 IM3 hge
    obtain ⟨y, f, hy, rfl, him, hhi, hown, hcu, hib, hb⟩ := hrel
    have HM := hide him; have HO := hide hown; have HCu := hide hcu; have HIB := hide hib; have HB := hide hb
    clear him hown hcu hib hb
    by_cases hlt : y < R
    · have hyI : (y : Int) < R := by omega
      obtain ⟨g0, c0, hrow0, -⟩ := ownMat_cell HO.out y 0 hlt (by omega)
      go_wp2
      clear hrow0
      go_loopw [27] (fun i w' => ∃ (x : Nat) (f : Nat → Nat → Int), x ≤ C ∧ i = .int .i64 x ∧ Img R C f ∧ hi ≤ w'.heap.size ∧ OwnMat w' w.heap.size hi (.slice (some ⟨gv, 0, none⟩) R cv) (mkM R C f) ∧ CurAt w' B a n ∧ InBytes w' base a n ∧ Below B w w') (fun i _ => C - (intOf i).toNat)
      case atStart => exact ⟨0, f, by omega, rfl, HM.out, hhi, HO.out, HCu.out, HIB.out, HB.out⟩
      case round =>
        clear HM HO HCu HIB HB hhi f
        obtain ⟨x, f, hx, rfl, him, hhi, hown, hcu, hib, hb⟩ := hrel
        have HM := hide him; have HO := hide hown; have HCu := hide hcu; have HIB := hide hib; have HB := hide hb
        clear him hown hcu hib hb
        by_cases hlx : x < C
        · have hxI : (x : Int) < C := by omega
          obtain ⟨gr, cr, hrow, hcl, hfr, hlo, hgh, -⟩ := ownMat_cell HO.out y x hlt hlx
          have hgv : gv ≠ B := by
            obtain ⟨vs, hvs, -⟩ := HO.out
            have := (hvs.lt gv rfl).1; omega
          have HK : Hid (∀ w5, CurAt w5 B a n → wr.drew.grownBy w5 (some B) → w5.cell? ⟨gv, y, none⟩ = some (.slice (some ⟨gr, 0, none⟩) C cr) ∧ w5.cell? ⟨gr, x, none⟩ = some (.int .i64 (f y x)) ∧ w5.frozen? ⟨gr, x, none⟩ = false) := hide fun w5 hc hg => cells_kept hg hrow hcl hfr hgv (by omega)
          have hgg : gv ≠ gr := ownMat_apart HO.out y (by rw [mkM_len]; exact hlt) hrow
          have HCd : Hid (CurAt wr.drew B a n) := hide HCu.out
          have HId : Hid (InBytes wr.drew base a n) := hide HIB.out
          go_wp2
          go_region_held3 (fun w' => w'.cell? ⟨gv, y, none⟩ = some (.slice (some ⟨gr, 0, none⟩) C cr))
            (first | exact hrow | exact k1 | exact HKS.out)
            (first | (go_at_call 62; refine (l01Below_any B n a 2 _ base (by omega) (by omega) HCd.out HId.out hbase).mono ?_; rintro e w5 ⟨z, hz0, hz1, rfl, hc5, hg5⟩; obtain ⟨k1, k2, k3⟩ := HK.out w5 hc5 hg5; have HZ : Hid (z = 0 ∨ z = 1) := hide (by omega); have HKS : Hid ((w5.setCell ⟨gr, x, none⟩ (.int .i64 z)).cell? ⟨gv, y, none⟩ = some (.slice (some ⟨gr, 0, none⟩) C cr)) := hide (by rw [World.cell?_setCell_other _ _ _ _ (fun e => hgg (congrArg Addr.block e).symm)]; exact k1); replace hc5 := hide hc5; replace hg5 := hide hg5))
          go_wp2
          go_roundw
          case rel =>
            have hg := grown_undrew hg5.out
            have ho5 := ownMat_cur HO.out hg (by omega)
            obtain ⟨g7, c7, hrow7, -, -, -, -, hset⟩ := ownMat_cell ho5 y x hlt hlx
            rw [k1] at hrow7
            simp only [Option.some.injEq, Value.slice.injEq, Addr.mk.injEq] at hrow7
            obtain ⟨⟨rfl, -, -⟩, -, -⟩ := hrow7
            exact ⟨x + 1, _, by omega, by go_num, img_upd HM.out y x HZ.out, (by have := hg.size; simp [World.setCell]; omega), hset z, curAt_within hc5.out (heap_setCell_other _ _ _ _ (by show B ≠ gr; omega)), inBytes_below (inBytes_grown HIB.out hg hbase) ((Below.refl _ _).setCell (by show base ≤ gr; omega) _), (HB.out.trans (grown_below hg (fun k hk => by cases hk; exact Nat.le_refl _) (by have := curAt_lt HCu.out; omega))).setCell (by show B ≤ gr; omega) _⟩
          case measure => simp [intOf]; omega
        · obtain rfl : x = C := by omega
          go_wp2
          go_roundw
          case rel => exact ⟨y + 1, f, by omega, by go_num, HM.out, hhi, HO.out, HCu.out, HIB.out, HB.out⟩
          case measure => simp [intOf]; omega
    · obtain rfl : y = R := by omega
      go_wp2
      go_ret
      exact ⟨_, y, C, f, rfl, HM.out, HMOST.out, ownMat_mono HO.out (Nat.le_refl _) hhi, HCu.out, HB.out⟩

theorem l02Draw_any (B n : Nat) (a : Option Addr) (most : Nat) (w : World) (base : Nat) (hm0 : 1 ≤ most) (hm1 : most ≤ 5) (hc : CurAt w B a n) (hin : InBytes w base a n) (hbase : base ≤ B) :
    Calls Tryz.prog 41 #[.pointer (some ⟨B, 0, none⟩), .int .i64 most] w (DrawnImg w B a n) :=
  (l02Draw_most B n a most w base hm0 hm1 hc hin hbase).mono fun _ _ ⟨v, R, C, f, h1, h2, _, h3, h4, h5⟩ => ⟨v, R, C, f, h1, h2, h3, h4, h5⟩

/-- What the laws' makers answer: some image. -/
def MadeImg (w : World) (e : Ending) (w' : World) : Prop := ∃ (v : Value) (R C : Nat) (f : Nat → Nat → Int), e = .returned v ∧ Img R C f ∧ OwnMat w' w.heap.size w'.heap.size v (mkM R C f) ∧ Below w.heap.size w w'
set_option maxHeartbeats 400000 in
theorem makeImage_any (n c : Nat) (a : Option Addr) (m : Nat) (w : World) (base : Nat) (hin : InBytes w base a n) (hn : n ≤ 2000000) (hm : m ≤ 1000) :
    Calls Tryz.prog 12 #[.slice a n c, .int .i64 m, .int .i64 5] w (MadeImg w) := by
  have HI := hide hin
  clear hin
  go_enter Tryz.func12, Tryz.ntmps12
  go_wp2_with fail
  refine (l18New_any n c a m _ base HI.out hn hm).mono ?_
  rintro e w1 ⟨rfl, hc, hb, hlt⟩
  have HC := hide hc; have HB := hide hb; have hs1 := hb.size
  have HI1 := hide (inBytes_below HI.out (hb.mono HI.out.2.1))
  clear hc hb
  go_wp2_with fail
  refine (l02Draw_any _ n a 5 _ base (by omega) (by omega) HC.out HI1.out HI.out.2.1).mono ?_
  rintro e w2 ⟨v, R, C, f, rfl, him, ho, -, hb⟩
  have HIM := hide him; have HO := hide (ownMat_mono ho hs1 (Nat.le_refl _)); have HB2 := hide (HB.out.trans hb)
  clear him ho hb
  go_wp2
  go_ret
  exact ⟨v, R, C, f, rfl, HIM.out, HO.out, HB2.out⟩

/-- What MakeSized answers: an image of the size asked. -/
def SizedImg (R C : Nat) (w : World) (e : Ending) (w' : World) : Prop := ∃ (v : Value) (f : Nat → Nat → Int), e = .returned v ∧ Img R C f ∧ OwnMat w' w.heap.size w'.heap.size v (mkM R C f) ∧ Below w.heap.size w w'
set_option maxRecDepth 100000 in
set_option maxHeartbeats 1000000 in
theorem makeSized_any (n c : Nat) (a : Option Addr) (m R C : Nat) (w : World) (base : Nat) (hin : InBytes w base a n) (hn : n ≤ 2000000) (hm : m ≤ 1000) (hR5 : 1 ≤ R ∧ R ≤ 5) (hC5 : 1 ≤ C ∧ C ≤ 5) :
    Calls Tryz.prog 23 #[.slice a n c, .int .i64 m, .int .i64 R, .int .i64 C] w (SizedImg R C w) := by
  have HI := hide hin
  have hbase := hin.2.1
  clear hin
  go_enter Tryz.func23, Tryz.ntmps23
  go_wp2_with fail
  refine (l18New_any n c a m _ base HI.out hn hm).mono ?_
  rintro e w0 ⟨rfl, hc, hb, hBw⟩
  have HC0 := hide hc; have HB0 := hide hb; have HI0 := hide (inBytes_below HI.out (hb.mono HI.out.2.1))
  clear hc hb HI
  obtain ⟨B, hB⟩ : ∃ B, w.heap.size = B := ⟨_, rfl⟩
  rw [hB] at HC0 HB0 hBw hbase ⊢
  have HEB := hide hB
  clear hB
  go_wp2_with fail
  rw [show max (1 : Int) (min (R : Int) 5) = R by omega, show max (1 : Int) (min (C : Int) 5) = C by omega]
  refine (l02Empty_any R C _ hR5.2 hC5.2).mono ?_
  rintro e w3 ⟨v3, rfl, o3, b3⟩
  obtain ⟨gv, cv, rfl⟩ := ownMat_some o3 (by rw [mkM_len]; omega)
  rw [mkM_len] at *
  have B3 := hide (HB0.out.trans (b3.mono (by omega)))
  have C3 := hide (curAt_below HC0.out b3)
  have I3 := hide (inBytes_below HI0.out (b3.mono (by omega)))
  have O3 := hide o3
  have IM3 := hide (img_zero hR5 hC5)
  obtain ⟨hi, hhi⟩ : ∃ hi, hi = w3.heap.size := ⟨_, rfl⟩
  have hge : hi ≤ w3.heap.size := by omega
  rw [← hhi] at O3
  clear HC0 HI0 o3 b3 hhi
  go_wp2
  go_loopw [25] (fun i w' => ∃ (y : Nat) (f : Nat → Nat → Int), y ≤ R ∧ i = .int .i64 y ∧ Img R C f ∧ hi ≤ w'.heap.size ∧ OwnMat w' w0.heap.size hi (.slice (some ⟨gv, 0, none⟩) R cv) (mkM R C f) ∧ CurAt w' B a n ∧ InBytes w' base a n ∧ Below B w w') (fun i _ => R - (intOf i).toNat)
  case atStart => exact ⟨0, zeroM, by omega, rfl, IM3.out, hge, O3.out, C3.out, I3.out, B3.out⟩
  case round =>
    clear B3 C3 I3 O3 IM3 hge
    obtain ⟨y, f, hy, rfl, him, hhi, hown, hcu, hib, hb⟩ := hrel
    have HM := hide him; have HO := hide hown; have HCu := hide hcu; have HIB := hide hib; have HB := hide hb
    clear him hown hcu hib hb
    by_cases hlt : y < R
    · have hyI : (y : Int) < R := by omega
      obtain ⟨g0, c0, hrow0, -⟩ := ownMat_cell HO.out y 0 hlt (by omega)
      go_wp2
      clear hrow0
      go_loopw [33] (fun i w' => ∃ (x : Nat) (f : Nat → Nat → Int), x ≤ C ∧ i = .int .i64 x ∧ Img R C f ∧ hi ≤ w'.heap.size ∧ OwnMat w' w0.heap.size hi (.slice (some ⟨gv, 0, none⟩) R cv) (mkM R C f) ∧ CurAt w' B a n ∧ InBytes w' base a n ∧ Below B w w') (fun i _ => C - (intOf i).toNat)
      case atStart => exact ⟨0, f, by omega, rfl, HM.out, hhi, HO.out, HCu.out, HIB.out, HB.out⟩
      case round =>
        clear HM HO HCu HIB HB hhi f
        obtain ⟨x, f, hx, rfl, him, hhi, hown, hcu, hib, hb⟩ := hrel
        have HM := hide him; have HO := hide hown; have HCu := hide hcu; have HIB := hide hib; have HB := hide hb
        clear him hown hcu hib hb
        by_cases hlx : x < C
        · have hxI : (x : Int) < C := by omega
          obtain ⟨gr, cr, hrow, hcl, hfr, hlo, hgh, -⟩ := ownMat_cell HO.out y x hlt hlx
          have hgv : gv ≠ B := by
            obtain ⟨vs, hvs, -⟩ := HO.out
            have := (hvs.lt gv rfl).1; omega
          have HK : Hid (∀ w5, CurAt w5 B a n → wr.drew.grownBy w5 (some B) → w5.cell? ⟨gv, y, none⟩ = some (.slice (some ⟨gr, 0, none⟩) C cr) ∧ w5.cell? ⟨gr, x, none⟩ = some (.int .i64 (f y x)) ∧ w5.frozen? ⟨gr, x, none⟩ = false) := hide fun w5 hc hg => cells_kept hg hrow hcl hfr hgv (by omega)
          have hgg : gv ≠ gr := ownMat_apart HO.out y (by rw [mkM_len]; exact hlt) hrow
          have HCd : Hid (CurAt wr.drew B a n) := hide HCu.out
          have HId : Hid (InBytes wr.drew base a n) := hide HIB.out
          go_wp2
          go_region_held3 (fun w' => w'.cell? ⟨gv, y, none⟩ = some (.slice (some ⟨gr, 0, none⟩) C cr))
            (first | exact hrow | exact k1 | exact HKS.out)
            (first | (go_at_call 62; refine (l01Below_any B n a 2 _ base (by omega) (by omega) HCd.out HId.out hbase).mono ?_; rintro e w5 ⟨z, hz0, hz1, rfl, hc5, hg5⟩; obtain ⟨k1, k2, k3⟩ := HK.out w5 hc5 hg5; have HZ : Hid (z = 0 ∨ z = 1) := hide (by omega); have HKS : Hid ((w5.setCell ⟨gr, x, none⟩ (.int .i64 z)).cell? ⟨gv, y, none⟩ = some (.slice (some ⟨gr, 0, none⟩) C cr)) := hide (by rw [World.cell?_setCell_other _ _ _ _ (fun e => hgg (congrArg Addr.block e).symm)]; exact k1); replace hc5 := hide hc5; replace hg5 := hide hg5))
          go_wp2
          go_roundw
          case rel =>
            have hg := grown_undrew hg5.out
            have ho5 := ownMat_cur HO.out hg (by omega)
            obtain ⟨g7, c7, hrow7, -, -, -, -, hset⟩ := ownMat_cell ho5 y x hlt hlx
            rw [k1] at hrow7
            simp only [Option.some.injEq, Value.slice.injEq, Addr.mk.injEq] at hrow7
            obtain ⟨⟨rfl, -, -⟩, -, -⟩ := hrow7
            exact ⟨x + 1, _, by omega, by go_num, img_upd HM.out y x HZ.out, (by have := hg.size; simp [World.setCell]; omega), hset z, curAt_within hc5.out (heap_setCell_other _ _ _ _ (by show B ≠ gr; omega)), inBytes_below (inBytes_grown HIB.out hg hbase) ((Below.refl _ _).setCell (by show base ≤ gr; omega) _), (HB.out.trans (grown_below hg (fun k hk => by cases hk; exact Nat.le_refl _) (by have := curAt_lt HCu.out; omega))).setCell (by show B ≤ gr; omega) _⟩
          case measure => simp [intOf]; omega
        · obtain rfl : x = C := by omega
          go_wp2
          go_roundw
          case rel => exact ⟨y + 1, f, by omega, by go_num, HM.out, hhi, HO.out, HCu.out, HIB.out, HB.out⟩
          case measure => simp [intOf]; omega
    · obtain rfl : y = R := by omega
      go_wp2
      go_ret
      exact ⟨_, f, rfl, HM.out, ownMat_mono HO.out (by have := HB0.out.size; exact this) hhi, by rw [HEB.out]; exact HB.out⟩

end Go.Proofs.YtcliiefedmiokaaGreat
