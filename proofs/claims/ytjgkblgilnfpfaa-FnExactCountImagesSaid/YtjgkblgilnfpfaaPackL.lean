/-
  Texts of this claim, one behind the other: AllQ, MskP, MskW, MskS, LawsMo.
-/
import Derived.Test.YtjgkblgilnfpfaaPackK
import Derived.Test.YtjgkblgilnfpfaaPackC
import Derived.Test.YtjgkblgilnfpfaaPackG
import Derived.Test.YtjgkblgilnfpfaaPackB
/-
  AllImages and CountImages of the model.
-/
namespace Go.Proofs.Ytjgkblgilnfpfaa
open Go.RowKit

/-- All images with given sums; none where the sums are refused. -/
def allIm (r c : List Int) : List (List (List Int)) := if existsOf r c = true then allL r c else []
def countIm (r c : List Int) : Int := if sumsOk r c = true then ((allIm r c).length : Int) else -1
theorem allL_none {r c : List Int} (h : sumsOk r c = true) (he : existsOf r c = false) : allL r c = [] := by
  obtain ⟨hr, hc, -⟩ := sumsOk_yes h
  cases r with
  | nil => simp at hr
  | cons a r =>
    rw [allL, List.flatMap_eq_nil_iff]
    intro row hrow
    cases hb : restB r (subL c row) with
    | false => simp
    | true =>
      exfalso
      have h1 := (restB_iff (by simp at hr; omega) (by rw [subL_len]; exact hc)).1 hb
      have h2 := exists_of_img hr hc ((hasImg_cons a r c).2 ⟨row, (mem_rowsL _ _ _).1 hrow, h1⟩)
      rw [he] at h2; cases h2
theorem allIm_sums {r c : List Int} (h : sumsOk r c = true) : allIm r c = allL r c := by
  unfold allIm
  cases he : existsOf r c with
  | true => simp
  | false => simp [allL_none h he]
theorem allIm_refused {r c : List Int} (h : sumsOk r c = false) : allIm r c = [] := by
  unfold allIm
  rw [if_neg]
  intro he
  rw [existsOf_sums he] at h; cases h
theorem allIm_len (r c : List Int) : (allIm r c).length ≤ 100000 := by
  unfold allIm
  split
  · rename_i h
    obtain ⟨hr, hc, -⟩ := sumsOk_yes (existsOf_sums h)
    refine Nat.le_trans (allL_len r c hc.2) ?_
    exact Nat.le_trans (Nat.pow_le_pow_right (by decide) hr.2) (by decide)
  · simp
/-- The call answers a list of lists of lists of its own, and a bool. -/
def ImgsRes2 (ms : List (List (List Int))) (b : Bool) (w : World) (e : Ending) (w' : World) : Prop := ∃ v, e = .returned (.tuple #[v, .bool b]) ∧ OwnImgs w' w.heap.size v ms ∧ Below w.heap.size w w'
theorem ownImgs_nil (w : World) (lo : Nat) : OwnImgs w lo (.slice none 0 0) [] := ⟨[], World.ownsRow_nil _ _ _ _, fun _ h => absurd h (Nat.not_lt_zero _)⟩

set_option maxHeartbeats 400000 in
theorem specAllIm_any (va vb : Value) (r c : List Int) (w : World) (ha : RowC w va r) (hb : RowC w vb c) :
    Calls Try.prog 15 #[va, vb] w (ImgsRes2 (allIm r c) (sumsOk r c) w) := by
  have HA := hide ha.1; have HB := hide hb.1
  cases h : sumsOk r c with
  | false =>
    rw [allIm_refused h]
    have H := hide h
    clear h ha hb
    go_enter Try.func15, Try.ntmps15
    go_wp2_with ((with_reducible refine (specSumsOk_any va vb r c _ HA.out HB.out).mono ?_); rw [H.out]; rintro e w1 ⟨rfl, b1⟩; have B1 := hide b1; clear b1)
    go_ret2
    exact ⟨_, rfl, ownImgs_nil _ _, B1.out⟩
  | true =>
    have H := hide h
    cases he : existsOf r c with
    | false =>
      rw [allIm_sums h, allL_none h he]
      have HE := hide he
      clear h he ha hb
      go_enter Try.func15, Try.ntmps15
      go_wp2_with (first | ((with_reducible refine (specSumsOk_any va vb r c _ HA.out HB.out).mono ?_); rw [H.out]; rintro e w1 ⟨rfl, b1⟩; have B1 := hide b1; clear b1) | ((with_reducible refine (specExists_any va vb r c _ (inRow_below HA.out B1.out) (inRow_below HB.out B1.out)).mono ?_); rw [HE.out]; rintro e w2 ⟨rfl, b2⟩; have B2 := hide (B1.out.trans (b2.mono B1.out.size)); clear b2))
      go_ret2
      exact ⟨_, rfl, ownImgs_nil _ _, B2.out⟩
    | true =>
      rw [allIm_sums h]
      have HE := hide he
      have HALL := hide fun (w' : World) (hw : Below w.heap.size w w') => specAll_start r c va vb w w' ha hb.1 he hw
      obtain ⟨xa, ca, hva, -, -⟩ := ha.1
      obtain ⟨xb, cb, hvb, -, -⟩ := hb.1
      subst hva hvb
      obtain ⟨R, hR⟩ : ∃ R, R = r.length := ⟨_, rfl⟩
      obtain ⟨C, hC⟩ : ∃ C, C = c.length := ⟨_, rfl⟩
      rw [← hR] at HA HALL ⊢
      rw [← hC] at HB HALL ⊢
      clear h he ha hb hR hC
      go_enter Try.func15, Try.ntmps15
      go_wp2_with (first | ((with_reducible refine (specSumsOk_any _ _ r c _ HA.out HB.out).mono ?_); rw [H.out]; rintro e w1 ⟨rfl, b1⟩; have B1 := hide b1; clear b1) | ((with_reducible refine (specExists_any _ _ r c _ (inRow_below HA.out B1.out) (inRow_below HB.out B1.out)).mono ?_); rw [HE.out]; rintro e w2 ⟨rfl, b2⟩; have B2 := hide (B1.out.trans (b2.mono B1.out.size)); clear b2) | ((with_reducible refine (HALL.out _ B2.out).mono ?_); rintro e w3 ⟨u, rfl, ⟨us, hv, hm⟩, hb3⟩; obtain ⟨au, cu, rfl⟩ := own_slice hv; have HR3 := hide (And.intro (show OwnImgs _ _ _ _ from ⟨us, hv, hm⟩) hb3); clear hv hm hb3))
      go_ret2
      exact ⟨_, rfl, HR3.out.1, HR3.out.2⟩

set_option maxHeartbeats 400000 in
theorem specCount_im (va vb : Value) (r c : List Int) (w : World) (ha : RowC w va r) (hb : RowC w vb c) :
    Calls Try.prog 23 #[va, vb] w fun e w' => e = .returned (.int .i64 (countIm r c)) ∧ Below w.heap.size w w' := by
  have HALL := hide (specAllIm_any va vb r c w ha hb)
  have HLEN := hide (allIm_len r c)
  have HCI := hide (show countIm r c = if sumsOk r c = true then ((allIm r c).length : Int) else -1 from rfl)
  obtain ⟨ms, hms⟩ : ∃ ms, ms = allIm r c := ⟨_, rfl⟩
  obtain ⟨ok, hok⟩ : ∃ ok, ok = sumsOk r c := ⟨_, rfl⟩
  obtain ⟨ans, hans⟩ : ∃ ans, ans = countIm r c := ⟨_, rfl⟩
  rw [← hans] at HCI ⊢
  rw [← hms, ← hok] at HALL HCI
  rw [← hms] at HLEN
  clear hms hok hans ha hb
  go_enter Try.func23, Try.ntmps23
  go_wp2_with fail
  refine HALL.out.mono ?_
  rintro e w2 ⟨u, rfl, ⟨us, hv, -⟩, hb2⟩
  obtain ⟨au, cu, rfl⟩ := own_slice hv
  have HB2 := hide hb2
  clear hv hb2
  cases ok with
  | false =>
    go_wp2
    go_ret
    exact ⟨by rw [HCI.out]; rfl, HB2.out⟩
  | true =>
    go_wp2
    go_ret
    exact ⟨by rw [HCI.out]; rfl, HB2.out⟩
end Go.Proofs.Ytjgkblgilnfpfaa
/-
  Masks: what meets them, all images that do, and when there is none.
-/
namespace Go.Proofs.Ytjgkblgilnfpfaa
open Go.RowKit Mx

/-- Two lists of one length whose elements fit, one by one. -/
def eqBy {α β : Type} (p : α → β → Bool) : List α → List β → Bool
  | [], [] => true
  | a :: l, b :: k => p a b && eqBy p l k
  | _, _ => false
theorem eqBy_len {α β : Type} {p : α → β → Bool} : ∀ {l : List α} {k : List β}, eqBy p l k = true → l.length = k.length
  | [], [], _ => rfl
  | a :: l, b :: k, h => by
    simp only [eqBy, Bool.and_eq_true] at h
    simp [eqBy_len h.2]
  | [], _ :: _, h => by simp [eqBy] at h
  | _ :: _, [], h => by simp [eqBy] at h
theorem eqBy_at {α β : Type} {p : α → β → Bool} : ∀ {l : List α} {k : List β} (i : Nat) (h1 : i < l.length) (h2 : i < k.length), eqBy p l k = true → p l[i] k[i] = true
  | a :: l, b :: k, 0, _, _, h => by simp only [eqBy, Bool.and_eq_true] at h; exact h.1
  | a :: l, b :: k, i + 1, h1, h2, h => by
    simp only [eqBy, Bool.and_eq_true] at h
    simpa using eqBy_at i (by simpa using h1) (by simpa using h2) h.2
theorem eqBy_yes {α β : Type} {p : α → β → Bool} : ∀ {l : List α} {k : List β}, l.length = k.length → (∀ i (h1 : i < l.length) (h2 : i < k.length), p l[i] k[i] = true) → eqBy p l k = true
  | [], [], _, _ => rfl
  | a :: l, b :: k, h, hp => by
    simp only [eqBy, Bool.and_eq_true]
    exact ⟨hp 0 (by simp) (by simp), eqBy_yes (by simpa using h) fun i h1 h2 => hp (i + 1) (by simpa using h1) (by simpa using h2)⟩
  | [], _ :: _, h, _ => by simp at h
  | _ :: _, [], h, _ => by simp at h
theorem eqBy_no1 {α β : Type} {p : α → β → Bool} {l : List α} {k : List β} (h : l.length ≠ k.length) : eqBy p l k = false := by
  cases e : eqBy p l k with
  | false => rfl
  | true => exact absurd (eqBy_len e) h
theorem eqBy_no2 {α β : Type} {p : α → β → Bool} {l : List α} {k : List β} (i : Nat) (h1 : i < l.length) (h2 : i < k.length) (h : p l[i] k[i] = false) : eqBy p l k = false := by
  cases e : eqBy p l k with
  | false => rfl
  | true => have := eqBy_at i h1 h2 e; rw [h] at this; cases this

/-- A cell meets an element of a mask. -/
def meetC (c k : Int) : Bool := k == -1 || k == c
def meetR : List Int → List Int → Bool := eqBy meetC
def meetM : List (List Int) → List (List Int) → Bool := eqBy meetR
def meetsB (m k : List (List Int)) : Bool := okB m && meetM m k
def maskRowB (C : Nat) (q : List Int) : Bool := q.length == C && q.all fun x => x == -1 || cellOk x
def maskB (k : List (List Int)) (r c : List Int) : Bool := sumsOk r c && k.length == r.length && k.all (maskRowB c.length)

/-- All images whose rows are chosen so, row by row: p says of a row, before these sums of the rows below, whether it may stand there. -/
def imL (p : List Int → List Int → Bool) : List Int → List Int → List (List (List Int))
  | [], _ => [[]]
  | a :: r, c => ((firstRows a r c).filter (p r)).flatMap fun row => (imL p r (subL c row)).map (row :: ·)
theorem imL_all : ∀ (r c : List Int), imL (fun _ _ => true) r c = allL r c
  | [], _ => rfl
  | a :: r, c => by
    rw [imL, allL, List.filter_eq_self.2 (fun _ _ => rfl), firstRows, flat_filterM]
    exact congrArg (List.flatMap · _) (funext fun row => by rw [imL_all r])
where
  flat_filterM {α β : Type} (p : α → Bool) (f : α → List β) : ∀ l : List α, (l.filter p).flatMap f = l.flatMap fun x => if p x then f x else []
  | [] => rfl
  | x :: l => by
    rw [List.flatMap_cons, List.filter_cons, ← flat_filterM p f l]
    cases p x <;> simp
theorem imL_sub (p : List Int → List Int → Bool) : ∀ (r c : List Int), ∀ {m : List (List Int)}, m ∈ imL p r c → m ∈ allL r c
  | [], _, _, h => h
  | a :: r, c, m, h => by
    rw [imL, List.mem_flatMap] at h
    obtain ⟨row, h1, h2⟩ := h
    obtain ⟨m', h3, rfl⟩ := List.mem_map.1 h2
    obtain ⟨h4, -⟩ := List.mem_filter.1 h1
    obtain ⟨h5, h6⟩ := List.mem_filter.1 h4
    rw [allL, List.mem_flatMap]
    exact ⟨row, h5, by rw [if_pos h6]; exact List.mem_map.2 ⟨m', imL_sub p r _ h3, rfl⟩⟩
/-- The row of a mask that stands before so many rows. -/
def maskP (k : List (List Int)) (r row : List Int) : Bool := meetR row (k.getD (k.length - (r.length + 1)) [])
theorem filter_map_cons {α : Type} (q : List α → Bool) (x : α) : ∀ l : List (List α), (l.map (x :: ·)).filter q = (l.filter fun m => q (x :: m)).map (x :: ·)
  | [] => rfl
  | m :: l => by
    rw [List.map_cons, List.filter_cons, List.filter_cons, filter_map_cons q x l]
    cases q (x :: m) <;> simp
theorem filter_flat {α β : Type} (q : β → Bool) (f : α → List β) : ∀ l : List α, (l.flatMap f).filter q = l.flatMap fun x => (f x).filter q
  | [] => rfl
  | x :: l => by rw [List.flatMap_cons, List.flatMap_cons, List.filter_append, filter_flat q f l]
theorem imL_mask : ∀ (r c : List Int) (k : List (List Int)), r.length ≤ k.length → imL (maskP k) r c = (allL r c).filter fun m => meetM m (k.drop (k.length - r.length))
  | [], c, k, _ => by
    rw [imL, allL, List.length_nil, Nat.sub_zero, List.drop_length]; rfl
  | a :: r, c, k, h => by
    rw [List.length_cons] at h
    have hd : k.drop (k.length - (r.length + 1)) = k.getD (k.length - (r.length + 1)) [] :: k.drop (k.length - r.length) := by
      rw [List.drop_eq_getElem_cons (by omega), List.getD_eq_getElem?_getD, List.getElem?_eq_getElem (by omega), Option.getD_some, show k.length - (r.length + 1) + 1 = k.length - r.length by omega]
    rw [imL, List.length_cons, hd, ← imL_all, imL, filter_flat, List.filter_eq_self.2 (fun _ _ => rfl), imL_all.flat_filterM]
    refine congrArg (List.flatMap · _) (funext fun row => ?_)
    rw [filter_map_cons, imL_all, imL_mask r (subL c row) k (by omega)]
    have hp : ∀ m, meetM (row :: m) (k.getD (k.length - (r.length + 1)) [] :: k.drop (k.length - r.length)) = (maskP k r row && meetM m (k.drop (k.length - r.length))) := fun m => rfl
    cases hc : maskP k r row with
    | false =>
      rw [if_neg (by simp), List.filter_eq_nil_iff.2 (fun m _ => by rw [hp, hc]; simp)]; rfl
    | true =>
      rw [if_pos rfl]
      exact congrArg _ (List.filter_congr fun m _ => by rw [hp, hc, Bool.true_and])
/-- The images that meet a mask. -/
def maskedL (k : List (List Int)) (r c : List Int) : List (List (List Int)) := (allIm r c).filter fun m => meetM m k
theorem maskedL_im {k : List (List Int)} {r c : List Int} (h : maskB k r c = true) : imL (maskP k) r c = maskedL k r c := by
  unfold maskB at h
  simp only [Bool.and_eq_true, beq_iff_eq] at h
  rw [imL_mask r c k (by omega), h.1.2, Nat.sub_self, List.drop_zero, maskedL, allIm_sums h.1.1]
def maskedImB (k : List (List Int)) (r c : List Int) : Bool := maskB k r c && !(maskedL k r c).isEmpty
def maskedIm (k : List (List Int)) (r c : List Int) : List (List Int) := if maskB k r c = true then (maskedL k r c).headD [] else []
def maskedCnt (k : List (List Int)) (r c : List Int) : Int := if maskB k r c = true then ((maskedL k r c).length : Int) else -1
end Go.Proofs.Ytjgkblgilnfpfaa
/-
  Masks: MaskOk and MeetsMask, of the program and of the model.
-/
namespace Go.Proofs.Ytjgkblgilnfpfaa
open Go.RowKit Go.Shelf

theorem cellMeets_any (x k : Int) (w : World) :
    Calls Try.prog 98 #[.int .i64 x, .int .i64 k] w fun e w' => e = .returned (.bool (meetC x k)) ∧ w = w' := by
  by_cases h1 : k = -1
  · subst h1
    go_enter Try.func98, Try.ntmps98
    go_wp2
    go_ret
    exact ⟨rfl, rfl⟩
  · have h0 : (k == -1) = false := by simp [h1]
    have HM : Hid (meetC x k = (k == x)) := hide (by unfold meetC; rw [h0]; rfl)
    clear h1
    go_enter Try.func98, Try.ntmps98
    go_wp2
    go_ret
    exact ⟨ret_bool HM.out.symm, rfl⟩
theorem maskCellOk_any (x : Int) (w : World) :
    Calls Try.prog 81 #[.int .i64 x] w fun e w' => e = .returned (.bool (x == -1 || cellOk x)) ∧ w = w' := by
  by_cases h1 : x = -1
  · subst h1
    go_enter Try.func81, Try.ntmps81
    go_wp2
    go_ret
    exact ⟨rfl, rfl⟩
  · have h0 : (x == -1) = false := by simp [h1]
    rw [h0]
    have HC := hide fun w' => colorOk_any x w'
    obtain ⟨b, hb⟩ : ∃ b, b = cellOk x := ⟨_, rfl⟩
    rw [← hb] at HC ⊢
    clear h1 hb
    go_enter Try.func81, Try.ntmps81
    go_wp2_with (go_at_call 96; refine (HC.out _).mono ?_; rintro e w' ⟨rfl, rfl⟩)
    go_ret
    exact ⟨rfl, rfl⟩
theorem maskRowOk1_any (x : Int) (w : World) :
    Calls Try.prog 80 #[.int .i64 x] w fun e w' => e = .returned (.bool (!(x == -1 || cellOk x))) ∧ w = w' := by
  have HC := hide fun w' => maskCellOk_any x w'
  obtain ⟨b, hb⟩ : ∃ b, b = (x == -1 || cellOk x) := ⟨_, rfl⟩
  rw [← hb] at HC ⊢
  clear hb
  go_enter Try.func80, Try.ntmps80
  go_wp2_with (go_at_call 81; refine (HC.out _).mono ?_; rintro e w' ⟨rfl, rfl⟩)
  go_ret
  exact ⟨rfl, rfl⟩

/-- What a function value answers of an integer, reading nothing. -/
def IntPred (g : Nat) (cb : Array Value) (p : Int → Bool) : Prop := ∀ (x : Int) (w : World), Calls Try.prog g (#[.int .i64 x] ++ cb) w fun e w' => e = .returned (.bool (p x)) ∧ w = w'
set_option maxHeartbeats 1000000 in
theorem idxInts_any (v : Value) (r : List Int) (g : Nat) (cb : Array Value) (p : Int → Bool) (w : World) (eg : ∀ args w, (callFunc g args).run Try.prog w = .ok (.enter g args) w) (hin : InRow w v r) (hp : IntPred g cb p) :
    Calls Try.prog 106 #[v, .func (.func g) #[] cb] w (IdxRes (r.any p) w) := by
  have HP := hide hp
  clear hp
  obtain ⟨a, c, rfl, hm, hp⟩ := hin
  unfold maxLen at hm
  by_cases h0 : r.length = 0
  · have hr : r = [] := List.eq_nil_of_length_eq_zero h0
    subst hr
    clear hp h0 hm
    go_enter Try.func106, Try.ntmps106
    go_wp2
    go_loop [8] (fun i => i = .int .i64 0) (fun _ => 0)
    case atStart => rfl
    case round =>
      obtain rfl := hrel
      go_wp2
      go_ret
      exact ⟨-1, rfl, by omega, rfl, rfl⟩
  · obtain ⟨gr, o, rfl, hg, hc⟩ := hp.resolve_left h0
    have HC := hide hc
    obtain ⟨n, hn⟩ : ∃ n, n = r.length := ⟨_, rfl⟩
    have HN := hide hn
    rw [← hn] at hm ⊢
    clear hp hc h0 hn
    go_enter Try.func106, Try.ntmps106
    go_wp2
    go_loop [8] (fun i => ∃ k : Nat, k ≤ n ∧ i = .int .i64 k ∧ ∀ t, (h : t < r.length) → t < k → p r[t] = false) (fun i => n - (intOf i).toNat)
    case atStart => exact ⟨0, Nat.zero_le _, rfl, fun t _ h => absurd h (Nat.not_lt_zero _)⟩
    case round =>
      obtain ⟨k, hk, rfl, hall⟩ := hrel
      have HA := hide hall
      clear hall
      by_cases hlt : k < n
      · have hk' : k < r.length := by rw [← HN.out]; exact hlt
        have hx := HC.out k hk'
        have HNO := hide (fun h => any_yes (p := p) k hk' h)
        have HST : Hid (p r[k] = false → ∀ t, (h : t < r.length) → t < k + 1 → p r[t] = false) := hide fun h t h1 ht => by
          by_cases e : t = k
          · subst e; exact h
          · exact HA.out t h1 (by omega)
        obtain ⟨x, hxx⟩ : ∃ x, x = r[k] := ⟨_, rfl⟩
        rw [← hxx] at hx HNO HST
        clear hxx
        have HCALL := hide (fun w' => HP.out x w')
        obtain ⟨q, hq⟩ : ∃ q, q = p x := ⟨_, rfl⟩
        rw [← hq] at HCALL HNO HST
        clear hq
        cases q with
        | true =>
          have HF := hide (HNO.out rfl)
          clear HNO HST
          go_wp2_with (go_at_fn g; refine (HCALL.out _).mono ?_; rintro e w9 ⟨rfl, rfl⟩)
          go_ret
          exact ⟨k, rfl, by omega, by rw [HF.out]; simp, rfl⟩
        | false =>
          have HS2 := hide (HST.out rfl)
          clear HNO HST
          go_wp2_with (go_at_fn g; refine (HCALL.out _).mono ?_; rintro e w9 ⟨rfl, rfl⟩)
          go_round
          case rel => exact ⟨k + 1, by omega, by go_num, HS2.out⟩
          case measure => simp [intOf]; omega
      · have HY := hide (any_no (p := p) fun t h => HA.out t h (by have := HN.out; omega))
        go_wp2
        go_ret
        exact ⟨-1, rfl, by omega, by rw [HY.out]; rfl, rfl⟩
theorem containsInts_any (v : Value) (r : List Int) (g : Nat) (cb : Array Value) (p : Int → Bool) (w : World) (eg : ∀ args w, (callFunc g args).run Try.prog w = .ok (.enter g args) w) (hin : InRow w v r) (hp : IntPred g cb p) :
    Calls Try.prog 79 #[v, .func (.func g) #[] cb] w fun e w' => e = .returned (.bool (r.any p)) ∧ w = w' := by
  have HI := hide (idxInts_any v r g cb p w eg hin hp)
  clear hin hp eg
  go_enter Try.func79, Try.ntmps79
  go_wp2_with fail
  refine HI.out.mono ?_
  rintro e w1 ⟨i, rfl, hi, hb, rfl⟩
  have HB := hide hb
  clear hb HI
  by_cases h : 0 ≤ i
  · go_wp2
    go_ret
    exact ⟨ret_bool (by rw [HB.out]; simp [h]), rfl⟩
  · go_wp2
    go_ret
    exact ⟨ret_bool (by rw [HB.out]), rfl⟩
theorem any_not {α : Type} (p : α → Bool) (r : List α) : (!r.any fun x => !p x) = r.all p := by
  induction r with
  | nil => rfl
  | cons x r ih => rw [List.any_cons, List.all_cons, ← ih]; cases p x <;> simp
theorem maskRowOk_any (v : Value) (r : List Int) (C : Nat) (w : World) (hin : InRow w v r) :
    Calls Try.prog 46 #[v, .int .i64 C] w fun e w' => e = .returned (.bool (maskRowB C r)) ∧ w = w' := by
  have HI := hide hin
  obtain ⟨a, c, rfl, -, -⟩ := hin
  have HC := hide (containsInts_any _ r 80 #[] (fun x => !(x == -1 || cellOk x)) w (enters_of Try.func80 (by kernel_rfl) rfl) HI.out (fun x w' => maskRowOk1_any x w'))
  have HM : Hid (maskRowB C r = (r.length == C && !r.any fun x => !(x == -1 || cellOk x))) := hide (by rw [any_not]; rfl)
  clear HI
  rw [HM.out]
  obtain ⟨b, hb⟩ : ∃ b, b = r.any fun x => !(x == -1 || cellOk x) := ⟨_, rfl⟩
  rw [← hb] at HC ⊢
  obtain ⟨n, hn⟩ : ∃ n, n = r.length := ⟨_, rfl⟩
  rw [← hn] at HC ⊢
  clear hb HM hn
  by_cases h : n = C
  · subst h
    rw [show (n == n) = true from beq_self_eq_true n]
    go_enter Try.func46, Try.ntmps46
    go_wp2_with (go_at_call 79; refine HC.out.mono ?_; rintro e w' ⟨rfl, rfl⟩)
    go_ret
    exact ⟨rfl, rfl⟩
  · have hne : ((n : Int) == (C : Int)) = false := by simp; omega
    rw [show (n == C) = false from beq_eq_false_iff_ne.2 h]
    go_enter Try.func46, Try.ntmps46
    go_wp2
    go_ret
    exact ⟨rfl, rfl⟩
theorem maskOk1_any (u vc : Value) (row c : List Int) (q : Nat) (w : World) (hu : InRow w u row) (hc : InRow w vc c) (hq : w.cell? ⟨q, 0, none⟩ = some vc) :
    Calls Try.prog 45 #[u, .pointer (some ⟨q, 0, none⟩)] w fun e w' => e = .returned (.bool (!maskRowB c.length row)) ∧ Below w.heap.size w w' := by
  have HC := hide (maskRowOk_any u row c.length w hu)
  obtain ⟨b, hb⟩ : ∃ b, b = maskRowB c.length row := ⟨_, rfl⟩
  rw [← hb] at HC ⊢
  obtain ⟨au, cu, rfl, -, -⟩ := hu
  obtain ⟨ac, cc, rfl, hm, -⟩ := hc
  unfold maxLen at hm
  generalize c.length = C at *
  generalize row.length = R at *
  clear hb
  go_enter Try.func45, Try.ntmps45
  go_wp2_with (go_at_call 46; refine HC.out.mono ?_; rintro e w' ⟨rfl, rfl⟩)
  go_ret
  exact ⟨rfl, Below.refl _ _⟩
set_option maxHeartbeats 1000000 in
theorem implMaskOk_any (vk va vb : Value) (k : List (List Int)) (r c : List Int) (w : World) (hk : InMat w vk k) (ha : InRow w va r) (hb : InRow w vb c) :
    Calls Try.prog 12 #[vk, va, vb] w fun e w' => e = .returned (.bool (maskB k r c)) ∧ Below w.heap.size w w' := by
  have hbx := (Below.refl w.heap.size w).alloc (Nat.le_refl _) (.cells #[vb] 24)
  have HBX := hide hbx
  have HQ := hide (show (w.alloc (.cells #[vb] 24)).cell? ⟨w.heap.size, 0, none⟩ = some vb by simp [World.cell?_alloc_new])
  have HS := hide (implSumsOk_any va vb r c _ (inRow_below ha hbx) (inRow_below hb hbx))
  have HK := hide (inMat_below hk hbx); have HB := hide (inRow_below hb hbx)
  have HM : Hid (maskB k r c = (sumsOk r c && k.length == r.length && !k.any fun q => !maskRowB c.length q)) := hide (by rw [any_not]; rfl)
  have HCN := hide fun w' (h : Below (w.alloc (.cells #[vb] 24)).heap.size (w.alloc (.cells #[vb] 24)) w') => containsRows_any vk k 45 #[.pointer (some ⟨w.heap.size, 0, none⟩)] (fun _ => True) (fun q => !maskRowB c.length q) w' (enters_of Try.func45 (by kernel_rfl) rfl) (inMat_below HK.out h) (fun _ _ => trivial)
    (fun row u w2 _ h2 hu => maskOk1_any u vb row c w.heap.size w2 hu (inRow_below (inRow_below HB.out h) h2) (by rw [below_cell (h.trans (h2.mono h.size)) (by simp) HQ.out]))
  rw [HM.out]
  obtain ⟨b, hbb⟩ : ∃ b, b = k.any fun q => !maskRowB c.length q := ⟨_, rfl⟩
  rw [← hbb] at HCN ⊢
  obtain ⟨s, hs⟩ : ∃ s, s = sumsOk r c := ⟨_, rfl⟩
  rw [← hs] at HS ⊢
  obtain ⟨ak, ck, rfl, -, -⟩ := hk
  obtain ⟨aa, ca, rfl, -, -⟩ := ha
  obtain ⟨ab, cb, rfl, -, -⟩ := hb
  clear hbb hs hbx HM HK HB
  generalize c.length = C at *
  obtain ⟨R, hR⟩ : ∃ R, R = r.length := ⟨_, rfl⟩
  obtain ⟨K, hK⟩ : ∃ K, K = k.length := ⟨_, rfl⟩
  rw [← hR] at HS ⊢
  rw [← hK] at HCN ⊢
  clear hR hK
  cases s with
  | false =>
    go_enter Try.func12, Try.ntmps12
    go_wp2_with (go_at_call 43; refine HS.out.mono ?_; rintro e w1 ⟨rfl, b1⟩; have B1 := hide b1; clear b1)
    go_ret
    exact ⟨rfl, HBX.out.trans (B1.out.mono HBX.out.size)⟩
  | true =>
    by_cases h : K = R
    · subst h
      go_enter Try.func12, Try.ntmps12
      go_wp2_with (first | (go_at_call 43; refine HS.out.mono ?_; rintro e w1 ⟨rfl, b1⟩; have B1 := hide b1; clear b1) | (go_at_call 44; refine (HCN.out _ B1.out).mono ?_; rintro e w2 ⟨rfl, b2⟩; have B2 := hide b2; clear b2))
      go_ret
      exact ⟨ret_bool (by simp), HBX.out.trans ((B1.out.trans (B2.out.mono B1.out.size)).mono HBX.out.size)⟩
    · have hne : ((K : Int) == (R : Int)) = false := by simp; omega
      rw [show (K == R) = false from beq_eq_false_iff_ne.2 h]
      go_enter Try.func12, Try.ntmps12
      go_wp2_with (go_at_call 43; refine HS.out.mono ?_; rintro e w1 ⟨rfl, b1⟩; have B1 := hide b1; clear b1)
      go_ret
      exact ⟨rfl, HBX.out.trans (B1.out.mono HBX.out.size)⟩

set_option maxHeartbeats 1000000 in
theorem rowMeetsF_any (va vb : Value) (m l : List Int) (w : World) (ha : InRow w va m) (hb : InRow w vb l) :
    Calls Try.prog 97 #[va, vb, .func (.func 98) #[] #[]] w fun e w' => e = .returned (.bool (meetR m l)) ∧ w = w' := by
  obtain ⟨a, ca, rfl, hma, hpa⟩ := ha
  obtain ⟨b, cb, rfl, hmb, hpb⟩ := hb
  unfold maxLen at hma hmb
  by_cases hlen : m.length = l.length
  · by_cases h0 : m.length = 0
    · have hr : m = [] := List.eq_nil_of_length_eq_zero h0
      have hs : l = [] := List.eq_nil_of_length_eq_zero (by omega)
      subst hr; subst hs
      clear hpa hpb hma hmb hlen h0
      go_enter Try.func97, Try.ntmps97
      go_wp2
      go_loop [17] (fun i => i = .int .i64 0) (fun _ => 0)
      case atStart => rfl
      case round =>
        obtain rfl := hrel
        go_wp2
        go_ret
        exact ⟨rfl, rfl⟩
    · obtain ⟨ga, oa, rfl, hga, hca⟩ := hpa.resolve_left h0
      obtain ⟨gb, ob, rfl, hgb, hcb⟩ := hpb.resolve_left (by omega)
      have HA := hide hca; have HB := hide hcb; have HL := hide hlen
      obtain ⟨n, hn⟩ : ∃ n, n = m.length := ⟨_, rfl⟩
      have HN := hide hn
      have HM : Hid (l.length = n) := hide (by omega)
      rw [← hlen, ← hn]
      rw [← hn] at hma
      clear hpa hpb hca hcb h0 hmb hlen hn
      go_enter Try.func97, Try.ntmps97
      go_wp2
      go_loop [17] (fun i => ∃ k : Nat, k ≤ n ∧ i = .int .i64 k ∧ (∀ t, (h1 : t < m.length) → (h2 : t < l.length) → t < k → meetC m[t] l[t] = true)) (fun i => n - (intOf i).toNat)
      case atStart => exact ⟨0, Nat.zero_le _, rfl, fun t _ _ h => absurd h (Nat.not_lt_zero _)⟩
      case round =>
        obtain ⟨k, hk, rfl, hall⟩ := hrel
        have HH := hide hall
        clear hall
        by_cases hlt : k < n
        · have hkr : k < m.length := by rw [← HN.out]; exact hlt
          have hks : k < l.length := by rw [HM.out]; exact hlt
          have hxa := HA.out k hkr
          have hxb := HB.out k hks
          have HNO := hide (fun h => eqBy_no2 (p := meetC) k hkr hks h)
          have HST : Hid (meetC m[k] l[k] = true → ∀ t, (h1 : t < m.length) → (h2 : t < l.length) → t < k + 1 → meetC m[t] l[t] = true) := hide fun h t h1 h2 ht => by
            by_cases e : t = k
            · subst e; exact h
            · exact HH.out t h1 h2 (by omega)
          obtain ⟨x, hx⟩ : ∃ x, x = m[k] := ⟨_, rfl⟩
          obtain ⟨y, hy⟩ : ∃ y, y = l[k] := ⟨_, rfl⟩
          rw [← hx] at hxa HNO HST
          rw [← hy] at hxb HNO HST
          have HCALL := hide fun w' => cellMeets_any x y w'
          obtain ⟨q, hq⟩ : ∃ q, q = meetC x y := ⟨_, rfl⟩
          rw [← hq] at HCALL HNO HST
          clear hq hx hy
          cases q with
          | true =>
            have HS2 := hide (HST.out rfl)
            clear HNO HST
            go_wp2_with (go_at_call 98; refine (HCALL.out _).mono ?_; rintro e w9 ⟨rfl, rfl⟩)
            go_round
            case rel => exact ⟨k + 1, by omega, by go_num, HS2.out⟩
            case measure => simp [intOf]; omega
          | false =>
            have HF := hide (HNO.out rfl)
            clear HNO HST
            go_wp2_with (go_at_call 98; refine (HCALL.out _).mono ?_; rintro e w9 ⟨rfl, rfl⟩)
            go_ret
            exact ⟨ret_bool HF.out.symm, rfl⟩
        · have HY := hide (eqBy_yes (p := meetC) HL.out fun t h1 h2 => HH.out t h1 h2 (by have := HN.out; omega))
          go_wp2
          go_ret
          exact ⟨ret_bool HY.out.symm, rfl⟩
  · have HF := hide (eqBy_no1 (p := meetC) hlen)
    obtain ⟨n, hn⟩ : ∃ n, n = m.length := ⟨_, rfl⟩
    obtain ⟨k, hk⟩ : ∃ k, k = l.length := ⟨_, rfl⟩
    rw [← hn, ← hk] at hlen ⊢
    rw [← hn] at hma
    rw [← hk] at hmb
    have hne2 : ((n : Int) != (k : Int)) = true := by simp; omega
    clear hpa hpb hn hk hlen
    go_enter Try.func97, Try.ntmps97
    go_wp2
    go_ret
    exact ⟨ret_bool HF.out.symm, rfl⟩
theorem rowMeets_any (va vb : Value) (m l : List Int) (w : World) (ha : InRow w va m) (hb : InRow w vb l) :
    Calls Try.prog 64 #[va, vb] w fun e w' => e = .returned (.bool (meetR m l)) ∧ w = w' := by
  have HF := hide (rowMeetsF_any va vb m l w ha hb)
  obtain ⟨aa, ca, rfl, -, -⟩ := ha
  obtain ⟨ab, cb, rfl, -, -⟩ := hb
  generalize m.length = M at *
  generalize l.length = L at *
  go_enter Try.func64, Try.ntmps64
  go_wp2_with (go_at_call 97; refine HF.out.mono ?_; rintro e w' ⟨rfl, rfl⟩)
  go_ret
  exact ⟨rfl, rfl⟩
end Go.Proofs.Ytjgkblgilnfpfaa
/-
  Masks, of the model: l08Size, MaskOk, MeetsMask; MeetsMask of the program.
-/
namespace Go.Proofs.Ytjgkblgilnfpfaa
open Go.RowKit Go.Shelf

def sizeRow (C : Nat) (lo hi : Int) (q : List Int) : Bool := q.length == C && q.all fun x => decide (lo ≤ x ∧ x ≤ hi)
def sizeB (k : List (List Int)) (R C : Nat) (lo hi : Int) : Bool := k.length == R && k.all (sizeRow C lo hi)
theorem all_no {α : Type} {p : α → Bool} {l : List α} (i : Nat) (hi : i < l.length) (h : p l[i] = false) : l.all p = false := by
  rw [List.all_eq_false]
  exact ⟨l[i], List.getElem_mem hi, by simp [h]⟩
theorem all_yes {α : Type} {p : α → Bool} {l : List α} (h : ∀ i, (hi : i < l.length) → p l[i] = true) : l.all p = true := by
  rw [List.all_eq_true]
  intro x hx
  obtain ⟨i, hi, rfl⟩ := List.getElem_of_mem hx
  exact h i hi

set_option maxRecDepth 100000 in
set_option maxHeartbeats 1000000 in
theorem l08Size_any (v : Value) (m : List (List Int)) (R C : Nat) (lo hi : Int) (w : World) (hR : R ≤ 5) (hC : 1 ≤ C ∧ C ≤ 5) (hin : InMat w v m) :
    Calls Try.prog 60 #[v, .int .i64 R, .int .i64 C, .int .i64 lo, .int .i64 hi] w fun e w' => e = .returned (.bool (sizeB m R C lo hi)) ∧ w = w' := by
  obtain ⟨a, c, rfl, hm, hp⟩ := hin
  unfold maxLen at hm
  by_cases hlen : m.length = R
  · by_cases h0 : m.length = 0
    · have hr : m = [] := List.eq_nil_of_length_eq_zero h0
      subst hr
      obtain rfl : R = 0 := by simpa using hlen.symm
      clear hp h0 hm hlen hR
      go_enter Try.func60, Try.ntmps60
      go_wp2
      go_loop [21] (fun i => i = .int .i64 0) (fun _ => 0)
      case atStart => rfl
      case round =>
        obtain rfl := hrel
        go_wp2
        go_ret
        exact ⟨rfl, rfl⟩
    · obtain ⟨g, o, rfl, hg, hcell⟩ := hp.resolve_left h0
      have HC := hide hcell
      have HL := hide hlen
      have HSZ : Hid (sizeB m R C lo hi = m.all (sizeRow C lo hi)) := hide (by rw [sizeB, beq_iff_eq.2 hlen, Bool.true_and])
      rw [HSZ.out]
      rw [hlen] at hm ⊢
      clear hp hcell hlen h0
      go_enter Try.func60, Try.ntmps60
      go_wp2
      go_loop [21] (fun i => ∃ k : Nat, k ≤ R ∧ i = .int .i64 k ∧ ∀ t, (h : t < m.length) → t < k → sizeRow C lo hi m[t] = true) (fun i => R - (intOf i).toNat)
      case atStart => exact ⟨0, Nat.zero_le _, rfl, fun t _ h => absurd h (Nat.not_lt_zero _)⟩
      case round =>
        obtain ⟨k, hk, rfl, hall⟩ := hrel
        have HA := hide hall
        clear hall
        by_cases hlt : k < R
        · have hk' : k < m.length := by rw [HL.out]; exact hlt
          obtain ⟨u, hx, hr⟩ := HC.out k hk'
          obtain ⟨a', c', rfl, hm', hp'⟩ := hr
          unfold maxLen at hm'
          have HNO := hide (fun h => all_no (p := sizeRow C lo hi) k hk' h)
          obtain ⟨row, hrow⟩ : ∃ row, row = m[k] := ⟨_, rfl⟩
          have HROW := hide hrow
          rw [← hrow] at hx hm' hp' HNO
          by_cases hln : row.length = C
          · obtain ⟨g', o', rfl, hg', hcell'⟩ := hp'.resolve_left (by omega)
            have HC' := hide hcell'
            have HLN := hide hln
            rw [hln] at hx hm'
            clear hp' hcell' hrow hln
            go_wp2
            go_loop [31] (fun i => ∃ j : Nat, j ≤ C ∧ i = .int .i64 j ∧ ∀ t, (h : t < row.length) → t < j → (decide (lo ≤ row[t] ∧ row[t] ≤ hi)) = true) (fun i => C - (intOf i).toNat)
            case atStart => exact ⟨0, Nat.zero_le _, rfl, fun t _ h => absurd h (Nat.not_lt_zero _)⟩
            case round =>
              obtain ⟨j, hj, rfl, hall⟩ := hrel
              have HB := hide hall
              clear hall
              by_cases hlj : j < C
              · have hj' : j < row.length := by rw [HLN.out]; exact hlj
                have hy := HC'.out j hj'
                have HSB := hide (show decide (lo ≤ row[j] ∧ row[j] ≤ hi) = true → ∀ t, (h : t < row.length) → t < j + 1 → decide (lo ≤ row[t] ∧ row[t] ≤ hi) = true from fun hc t ht h => by
                  by_cases e : t = j
                  · subst e; exact hc
                  · exact HB.out t ht (by omega))
                have HNB := hide (show decide (lo ≤ row[j] ∧ row[j] ≤ hi) = false → m.all (sizeRow C lo hi) = false from fun h => HNO.out (by
                  rw [sizeRow, all_no (p := fun x => decide (lo ≤ x ∧ x ≤ hi)) j hj' h, Bool.and_false]))
                obtain ⟨y, hyy⟩ : ∃ y, y = row[j] := ⟨_, rfl⟩
                rw [← hyy] at hy HSB HNB
                have HCALL := hide fun w' => l01In_any y lo hi w'
                obtain ⟨q, hq⟩ : ∃ q, q = decide (lo ≤ y ∧ y ≤ hi) := ⟨_, rfl⟩
                rw [← hq] at HCALL HSB HNB
                clear hyy hq
                cases q with
                | true =>
                  have HS2 := hide (HSB.out rfl)
                  clear HNB HSB
                  go_wp2_with (go_at_call 85; refine (HCALL.out _).mono ?_; rintro e w9 ⟨rfl, rfl⟩)
                  go_round
                  case rel => exact ⟨j + 1, by omega, by go_num, HS2.out⟩
                  case measure => simp [intOf]; omega
                | false =>
                  have HF := hide (HNB.out rfl)
                  clear HSB HNB
                  go_wp2_with (go_at_call 85; refine (HCALL.out _).mono ?_; rintro e w9 ⟨rfl, rfl⟩)
                  go_ret
                  exact ⟨ret_bool HF.out.symm, rfl⟩
              · have HST : Hid (∀ t, (h : t < m.length) → t < k + 1 → sizeRow C lo hi m[t] = true) := hide fun t h1 ht => by
                  by_cases e : t = k
                  · subst e
                    rw [← HROW.out, sizeRow, beq_iff_eq.2 HLN.out, Bool.true_and]
                    exact all_yes fun i hi => HB.out i hi (by have := HLN.out; omega)
                  · exact HA.out t h1 (by omega)
                go_wp2
                go_round
                case rel => exact ⟨k + 1, by omega, by go_num, HST.out⟩
                case measure => simp [intOf]; omega
          · have HF := hide (HNO.out (by rw [sizeRow, beq_eq_false_iff_ne.2 hln, Bool.false_and]))
            obtain ⟨n, hn⟩ : ∃ n, n = row.length := ⟨_, rfl⟩
            rw [← hn] at hx hm' hln
            have hne : ((n : Int) != (C : Int)) = true := by simp; omega
            clear hn hp' hrow
            go_wp2
            go_ret
            exact ⟨ret_bool HF.out.symm, rfl⟩
        · have HY := hide (all_yes (p := sizeRow C lo hi) fun t ht => HA.out t ht (by have := HL.out; omega))
          go_wp2
          go_ret
          exact ⟨ret_bool HY.out.symm, rfl⟩
  · have HF : Hid (sizeB m R C lo hi = false) := hide (by rw [sizeB, beq_eq_false_iff_ne.2 hlen, Bool.false_and])
    rw [HF.out]
    obtain ⟨n, hn⟩ : ∃ n, n = m.length := ⟨_, rfl⟩
    rw [← hn] at hlen hm ⊢
    have hne : ((n : Int) != (R : Int)) = true := by simp; omega
    clear hn hp hlen
    go_enter Try.func60, Try.ntmps60
    go_wp2
    go_ret
    exact ⟨rfl, rfl⟩
theorem cell_range (x : Int) : (x == -1 || cellOk x) = decide ((-1 : Int) ≤ x ∧ x ≤ 1) := by
  unfold cellOk
  by_cases h : -1 ≤ x ∧ x ≤ 1
  · rw [decide_eq_true h]
    rcases (show x = -1 ∨ x = 0 ∨ x = 1 by omega) with rfl | rfl | rfl <;> rfl
  · rw [decide_eq_false h, beq_eq_false_iff_ne.2 (by omega), beq_eq_false_iff_ne.2 (by omega), beq_eq_false_iff_ne.2 (by omega)]; rfl
theorem maskB_size (k : List (List Int)) (r c : List Int) : maskB k r c = (sumsOk r c && sizeB k r.length c.length (-1) 1) := by
  have e : maskRowB c.length = sizeRow c.length (-1) 1 := by
    funext q
    unfold maskRowB sizeRow
    congr 2
    funext x; exact cell_range x
  rw [maskB, sizeB, e, Bool.and_assoc]
set_option maxHeartbeats 400000 in
theorem specMaskOk_any (vk va vb : Value) (k : List (List Int)) (r c : List Int) (w : World) (hk : InMat w vk k) (ha : InRow w va r) (hb : InRow w vb c) :
    Calls Try.prog 31 #[vk, va, vb] w fun e w' => e = .returned (.bool (maskB k r c)) ∧ Below w.heap.size w w' := by
  have HS := hide (specSumsOk_any va vb r c w ha hb)
  rw [maskB_size]
  cases h : sumsOk r c with
  | false =>
    rw [h] at HS
    obtain ⟨ak, ck, rfl, -, -⟩ := hk
    obtain ⟨aa, ca, rfl, -, -⟩ := ha
    obtain ⟨ab, cb, rfl, -, -⟩ := hb
    generalize r.length = R at *
    generalize c.length = C at *
    generalize k.length = K at *
    clear h
    go_enter Try.func31, Try.ntmps31
    go_wp2_with (go_at_call 49; refine HS.out.mono ?_; rintro e w1 ⟨rfl, b1⟩; have B1 := hide b1; clear b1)
    go_ret
    exact ⟨rfl, B1.out⟩
  | true =>
    rw [h] at HS
    obtain ⟨hr5, hc5, -⟩ := sumsOk_yes h
    have HZ := hide fun w' (hw : Below w.heap.size w w') => l08Size_any vk k r.length c.length (-1) 1 w' hr5.2 hc5 (inMat_below hk hw)
    obtain ⟨q, hq⟩ : ∃ q, q = sizeB k r.length c.length (-1) 1 := ⟨_, rfl⟩
    rw [← hq] at HZ ⊢
    obtain ⟨ak, ck, rfl, -, -⟩ := hk
    obtain ⟨aa, ca, rfl, -, -⟩ := ha
    obtain ⟨ab, cb, rfl, -, -⟩ := hb
    clear hq h
    generalize r.length = R at *
    generalize c.length = C at *
    generalize k.length = K at *
    go_enter Try.func31, Try.ntmps31
    go_wp2_with (first | (go_at_call 49; refine HS.out.mono ?_; rintro e w1 ⟨rfl, b1⟩; have B1 := hide b1; clear b1) | (go_at_call 60; refine (HZ.out _ B1.out).mono ?_; rintro e w2 ⟨rfl, rfl⟩))
    go_ret
    exact ⟨rfl, B1.out⟩

/-- Where all cells are 0 or 1, what is met has elements in the range of an integer. -/
theorem meets_size (m k : List (List Int)) (hm : okB m = true) (h : meetM m k = true) : sizeB k m.length (widthM m) (-9223372036854775807) 9223372036854775807 = true := by
  obtain ⟨h1, h2, h3⟩ := okB_parts hm
  have hl := eqBy_len h
  rw [sizeB, beq_iff_eq.2 hl.symm, Bool.true_and]
  refine all_yes fun i hi => ?_
  have hr : meetR m[i] k[i] = true := eqBy_at i (by omega) hi h
  have hrl := eqBy_len hr
  obtain ⟨g1, g2⟩ := h3 i (by omega)
  rw [sizeRow, beq_iff_eq.2 (by omega), Bool.true_and]
  refine all_yes fun j hj => ?_
  have hc : meetC m[i][j] k[i][j] = true := eqBy_at j (by omega) hj hr
  have := g2 j (by omega)
  unfold meetC at hc
  simp only [Bool.or_eq_true, beq_iff_eq] at hc
  exact decide_eq_true (by omega)
where
  okB_parts {m : List (List Int)} (h : okB m = true) : (1 ≤ m.length ∧ m.length ≤ 5) ∧ (1 ≤ widthM m ∧ widthM m ≤ 5) ∧ ∀ i, (hi : i < m.length) → m[i].length = widthM m ∧ ∀ j, (hj : j < m[i].length) → m[i][j] = 0 ∨ m[i][j] = 1 := by
    unfold okB at h
    simp only [Bool.and_eq_true, decide_eq_true_eq] at h
    refine ⟨h.1.1, h.1.2, fun i hi => ?_⟩
    have := List.all_eq_true.1 h.2 _ (List.getElem_mem hi)
    unfold rowOk at this
    simp only [Bool.and_eq_true, beq_iff_eq] at this
    refine ⟨this.1, fun j hj => ?_⟩
    have := List.all_eq_true.1 this.2 _ (List.getElem_mem hj)
    unfold cellOk at this
    simpa using this
set_option maxRecDepth 100000 in
set_option maxHeartbeats 1000000 in
theorem specMeets_any (va vb : Value) (m l : List (List Int)) (w : World) (ha : InMat w va m) (hb : InMat w vb l) :
    Calls Try.prog 33 #[va, vb] w fun e w' => e = .returned (.bool (meetsB m l)) ∧ w = w' := by
  have HOK := hide (specImageOk_any va m w ha)
  cases h : okB m with
  | false =>
    rw [h] at HOK
    rw [meetsB, h]
    obtain ⟨a, ca, rfl, -, -⟩ := ha
    obtain ⟨b, cb, rfl, -, -⟩ := hb
    generalize m.length = M at *
    generalize l.length = L at *
    clear h
    go_enter Try.func33, Try.ntmps33
    go_wp2_with (go_at_call 61; refine HOK.out.mono ?_; rintro e w1 ⟨rfl, rfl⟩)
    go_ret
    exact ⟨rfl, rfl⟩
  | true =>
    rw [h] at HOK
    obtain ⟨h1, h2, h3⟩ := meets_size.okB_parts h
    have HMS := hide (meets_size m l h)
    have HSZ := hide (l08Size_any vb l m.length (widthM m) (-9223372036854775807) 9223372036854775807 w h1.2 h2 hb)
    have HMB : Hid (meetsB m l = meetM m l) := hide (by rw [meetsB, h, Bool.true_and])
    rw [HMB.out]
    obtain ⟨a, ca, rfl, hma, hpa⟩ := ha
    obtain ⟨b, cb, rfl, hmb, hpb⟩ := hb
    unfold maxLen at hma hmb
    obtain ⟨ga, oa, rfl, hga, hca⟩ := hpa.resolve_left (by omega)
    have HA := hide hca
    obtain ⟨u0, hx0, hr0⟩ := hca 0 (by omega)
    rw [Nat.add_zero] at hx0
    obtain ⟨a0, c0, rfl, -, -⟩ := hr0
    rw [show m[0].length = widthM m from (h3 0 (by omega)).1] at hx0
    obtain ⟨W, hW⟩ : ∃ W, W = widthM m := ⟨_, rfl⟩
    obtain ⟨R, hR⟩ : ∃ R, R = m.length := ⟨_, rfl⟩
    have HR := hide hR; have HW := hide hW; have H3 := hide h3
    rw [← hW] at hx0 h2 HSZ HMS H3
    rw [← hR] at h1 hma HOK HSZ HMS
    rw [← hR]
    obtain ⟨q, hq⟩ : ∃ q, q = sizeB l R W (-9223372036854775807) 9223372036854775807 := ⟨_, rfl⟩
    have HQ := hide hq
    rw [← hq] at HSZ HMS
    have hR0 : 0 < R := by omega
    obtain ⟨h1a, h1b⟩ := h1
    obtain ⟨h2a, h2b⟩ := h2
    cases q with
    | false =>
      have HF : Hid (meetM m l = false) := hide (by
        cases e : meetM m l with
        | false => rfl
        | true => have := HMS.out e; cases this)
      rw [HF.out]
      clear h hq hR hW h3 hpa hpb hca HQ HMS
      generalize l.length = L at *
      go_enter Try.func33, Try.ntmps33
      go_wp2_with (first | (go_at_call 61; refine HOK.out.mono ?_; rintro e w1 ⟨rfl, rfl⟩) | (go_at_call 60; refine HSZ.out.mono ?_; rintro e w1 ⟨rfl, rfl⟩))
      go_ret
      exact ⟨rfl, rfl⟩
    | true =>
      have hsz := hq.symm
      rw [sizeB, Bool.and_eq_true, beq_iff_eq] at hsz
      have hlr : ∀ i, (hi : i < l.length) → l[i].length = W := fun i hi => by
        have := List.all_eq_true.1 hsz.2 _ (List.getElem_mem hi)
        rw [sizeRow, Bool.and_eq_true, beq_iff_eq] at this
        exact this.1
      obtain ⟨gb, ob, rfl, hgb, hcb⟩ := hpb.resolve_left (by omega)
      have HB := hide hcb; have HLR := hide hlr; have HLL := hide hsz.1
      rw [hsz.1] at hmb HSZ ⊢
      clear h hq hR hW h3 hpa hpb hca hcb hsz hlr HMS HQ
      go_enter Try.func33, Try.ntmps33
      go_wp2_with (first | (go_at_call 61; refine HOK.out.mono ?_; rintro e w1 ⟨rfl, rfl⟩) | (go_at_call 60; refine HSZ.out.mono ?_; rintro e w1 ⟨rfl, rfl⟩))
      clear hx0
      go_loop [25] (fun i => ∃ k : Nat, k ≤ R ∧ i = .int .i64 k ∧ ∀ t, (g1 : t < m.length) → (g2 : t < l.length) → t < k → meetR m[t] l[t] = true) (fun i => R - (intOf i).toNat)
      case atStart => exact ⟨0, Nat.zero_le _, rfl, fun t _ _ h => absurd h (Nat.not_lt_zero _)⟩
      case round =>
        obtain ⟨k, hk, rfl, hall⟩ := hrel
        have HH := hide hall
        clear hall
        by_cases hlt : k < R
        · have hk1 : k < m.length := by rw [← HR.out]; exact hlt
          have hk2 : k < l.length := by rw [HLL.out]; exact hlt
          obtain ⟨ua, hxa, hra⟩ := HA.out k hk1
          obtain ⟨a1, c1, rfl, -, hp1⟩ := hra
          have hl1 := (H3.out k hk1).1
          obtain ⟨g1, o1, rfl, hg1, hc1⟩ := hp1.resolve_left (by omega)
          have HC1 := hide hc1
          obtain ⟨ub, hxb, hrb⟩ := HB.out k hk2
          obtain ⟨a2, c2, rfl, -, hp2⟩ := hrb
          have hl2 := HLR.out k hk2
          obtain ⟨g2, o2, rfl, hg2, hc2⟩ := hp2.resolve_left (by omega)
          have HC2 := hide hc2
          have HNO := hide (fun h => eqBy_no2 (p := meetR) k hk1 hk2 h)
          obtain ⟨p, hpp⟩ : ∃ p, p = m[k] := ⟨_, rfl⟩
          obtain ⟨s, hss⟩ : ∃ s, s = l[k] := ⟨_, rfl⟩
          have HP := hide hpp; have HS := hide hss
          rw [← hpp] at hxa hl1 HC1 HNO
          rw [← hss] at hxb hl2 HC2 HNO
          have HL1 := hide hl1; have HL2 := hide hl2
          rw [hl1] at hxa
          rw [hl2] at hxb
          clear hp1 hp2 hc1 hc2 hpp hss hl1 hl2
          go_wp2
          go_loop [32] (fun i => ∃ j : Nat, j ≤ W ∧ i = .int .i64 j ∧ ∀ t, (g1 : t < p.length) → (g2 : t < s.length) → t < j → meetC p[t] s[t] = true) (fun i => W - (intOf i).toNat)
          case atStart => exact ⟨0, Nat.zero_le _, rfl, fun t _ _ h => absurd h (Nat.not_lt_zero _)⟩
          case round =>
            obtain ⟨j, hj, rfl, hall⟩ := hrel
            have HI := hide hall
            clear hall
            by_cases hlj : j < W
            · have hj1 : j < p.length := by rw [HL1.out]; exact hlj
              have hj2 : j < s.length := by rw [HL2.out]; exact hlj
              have hy1 := HC1.out j hj1
              have hy2 := HC2.out j hj2
              have HSB := hide (show meetC p[j] s[j] = true → ∀ t, (g1 : t < p.length) → (g2 : t < s.length) → t < j + 1 → meetC p[t] s[t] = true from fun hc t g1 g2 h => by
                by_cases e : t = j
                · subst e; exact hc
                · exact HI.out t g1 g2 (by omega))
              have HNB := hide (show meetC p[j] s[j] = false → meetM m l = false from fun h => HNO.out (eqBy_no2 (p := meetC) j hj1 hj2 h))
              obtain ⟨x, hx⟩ : ∃ x, x = p[j] := ⟨_, rfl⟩
              obtain ⟨y, hy⟩ : ∃ y, y = s[j] := ⟨_, rfl⟩
              rw [← hx] at hy1 HSB HNB
              rw [← hy] at hy2 HSB HNB
              clear hx hy
              by_cases e1 : y = -1
              · subst e1
                have HS2 := hide (HSB.out rfl)
                clear HNB HSB
                go_wp2
                go_round
                case rel => exact ⟨j + 1, by omega, by go_num, HS2.out⟩
                case measure => simp [intOf]; omega
              · have b1 : (y != -1) = true := by simp [e1]
                by_cases e2 : y = x
                · subst e2
                  have HS2 := hide (HSB.out (by simp [meetC]))
                  clear HNB HSB e1
                  go_wp2
                  go_round
                  case rel => exact ⟨j + 1, by omega, by go_num, HS2.out⟩
                  case measure => simp [intOf]; omega
                · have b2 : (y != x) = true := by simp [e2]
                  have HF := hide (HNB.out (by unfold meetC; rw [beq_eq_false_iff_ne.2 e1, beq_eq_false_iff_ne.2 e2]; rfl))
                  clear HSB HNB e1 e2
                  go_wp2
                  go_ret
                  exact ⟨ret_bool HF.out.symm, rfl⟩
            · have HST : Hid (∀ t, (g1 : t < m.length) → (g2 : t < l.length) → t < k + 1 → meetR m[t] l[t] = true) := hide fun t h1 h2 ht => by
                by_cases e : t = k
                · subst e
                  rw [← HP.out, ← HS.out]
                  exact eqBy_yes (by rw [HL1.out, HL2.out]) fun i g1 g2 => HI.out i g1 g2 (by have := HL1.out; omega)
                · exact HH.out t h1 h2 (by omega)
              go_wp2
              go_round
              case rel => exact ⟨k + 1, by omega, by go_num, HST.out⟩
              case measure => simp [intOf]; omega
        · have HY := hide (eqBy_yes (p := meetR) (by rw [← HR.out, HLL.out]) fun t g1 g2 => HH.out t g1 g2 (by have := HR.out; omega))
          go_wp2
          go_ret
          exact ⟨ret_bool HY.out.symm, rfl⟩

set_option maxHeartbeats 1000000 in
theorem matMeetsF_any (va vb : Value) (m l : List (List Int)) (w : World) (ha : InMat w va m) (hb : InMat w vb l) :
    Calls Try.prog 63 #[va, vb, .func (.func 64) #[] #[]] w fun e w' => e = .returned (.bool (meetM m l)) ∧ w = w' := by
  obtain ⟨a, ca, rfl, hma, hpa⟩ := ha
  obtain ⟨b, cb, rfl, hmb, hpb⟩ := hb
  unfold maxLen at hma hmb
  by_cases hlen : m.length = l.length
  · by_cases h0 : m.length = 0
    · have hr : m = [] := List.eq_nil_of_length_eq_zero h0
      have hs : l = [] := List.eq_nil_of_length_eq_zero (by omega)
      subst hr; subst hs
      clear hpa hpb hma hmb hlen h0
      go_enter Try.func63, Try.ntmps63
      go_wp2
      go_loop [17] (fun i => i = .int .i64 0) (fun _ => 0)
      case atStart => rfl
      case round =>
        obtain rfl := hrel
        go_wp2
        go_ret
        exact ⟨rfl, rfl⟩
    · obtain ⟨ga, oa, rfl, hga, hca⟩ := hpa.resolve_left h0
      obtain ⟨gb, ob, rfl, hgb, hcb⟩ := hpb.resolve_left (by omega)
      have HA := hide hca; have HB := hide hcb; have HL := hide hlen
      obtain ⟨n, hn⟩ : ∃ n, n = m.length := ⟨_, rfl⟩
      have HN := hide hn
      have HM : Hid (l.length = n) := hide (by omega)
      rw [← hlen, ← hn]
      rw [← hn] at hma
      clear hpa hpb hca hcb h0 hmb hlen hn
      go_enter Try.func63, Try.ntmps63
      go_wp2
      go_loop [17] (fun i => ∃ k : Nat, k ≤ n ∧ i = .int .i64 k ∧ (∀ t, (h1 : t < m.length) → (h2 : t < l.length) → t < k → meetR m[t] l[t] = true)) (fun i => n - (intOf i).toNat)
      case atStart => exact ⟨0, Nat.zero_le _, rfl, fun t _ _ h => absurd h (Nat.not_lt_zero _)⟩
      case round =>
        obtain ⟨k, hk, rfl, hall⟩ := hrel
        have HH := hide hall
        clear hall
        by_cases hlt : k < n
        · have hkr : k < m.length := by rw [← HN.out]; exact hlt
          have hks : k < l.length := by rw [HM.out]; exact hlt
          obtain ⟨ua, hxa, hra⟩ := HA.out k hkr
          obtain ⟨ub, hxb, hrb⟩ := HB.out k hks
          have HCALL := hide (rowMeets_any ua ub m[k] l[k] w hra hrb)
          have HNO := hide (fun h => eqBy_no2 (p := meetR) k hkr hks h)
          have HST : Hid (meetR m[k] l[k] = true → ∀ t, (h1 : t < m.length) → (h2 : t < l.length) → t < k + 1 → meetR m[t] l[t] = true) := hide fun h t h1 h2 ht => by
            by_cases e : t = k
            · subst e; exact h
            · exact HH.out t h1 h2 (by omega)
          obtain ⟨q, hq⟩ : ∃ q, q = meetR m[k] l[k] := ⟨_, rfl⟩
          rw [← hq] at HCALL HNO HST
          clear hra hrb hq
          cases q with
          | true =>
            have HS2 := hide (HST.out rfl)
            clear HNO HST
            go_wp2_with (go_at_call 64; refine HCALL.out.mono ?_; rintro e w9 ⟨rfl, rfl⟩)
            go_round
            case rel => exact ⟨k + 1, by omega, by go_num, HS2.out⟩
            case measure => simp [intOf]; omega
          | false =>
            have HF := hide (HNO.out rfl)
            clear HST HNO
            go_wp2_with (go_at_call 64; refine HCALL.out.mono ?_; rintro e w9 ⟨rfl, rfl⟩)
            go_ret
            exact ⟨ret_bool HF.out.symm, rfl⟩
        · have HY := hide (eqBy_yes (p := meetR) HL.out fun t h1 h2 => HH.out t h1 h2 (by have := HN.out; omega))
          go_wp2
          go_ret
          exact ⟨ret_bool HY.out.symm, rfl⟩
  · have HF := hide (eqBy_no1 (p := meetR) hlen)
    obtain ⟨n, hn⟩ : ∃ n, n = m.length := ⟨_, rfl⟩
    obtain ⟨k, hk⟩ : ∃ k, k = l.length := ⟨_, rfl⟩
    rw [← hn, ← hk] at hlen ⊢
    rw [← hn] at hma
    rw [← hk] at hmb
    have hne2 : ((n : Int) != (k : Int)) = true := by simp; omega
    clear hpa hpb hn hk hlen
    go_enter Try.func63, Try.ntmps63
    go_wp2
    go_ret
    exact ⟨ret_bool HF.out.symm, rfl⟩
theorem implMeets_any (va vb : Value) (m l : List (List Int)) (w : World) (ha : InMat w va m) (hb : InMat w vb l) :
    Calls Try.prog 34 #[va, vb] w fun e w' => e = .returned (.bool (meetsB m l)) ∧ w = w' := by
  have HO := hide (implImageOk_any va m w ha)
  have HF := hide (matMeetsF_any va vb m l w ha hb)
  unfold meetsB
  obtain ⟨q, hq⟩ : ∃ q, q = meetM m l := ⟨_, rfl⟩
  rw [← hq] at HF ⊢
  obtain ⟨b, hbb⟩ : ∃ b, b = okB m := ⟨_, rfl⟩
  rw [← hbb] at HO ⊢
  obtain ⟨aa, ca, rfl, -, -⟩ := ha
  obtain ⟨ab, cb, rfl, -, -⟩ := hb
  clear hq hbb
  generalize m.length = M at *
  generalize l.length = L at *
  cases b with
  | false =>
    go_enter Try.func34, Try.ntmps34
    go_wp2_with (go_at_call 62; refine HO.out.mono ?_; rintro e w' ⟨rfl, rfl⟩)
    go_ret
    exact ⟨rfl, rfl⟩
  | true =>
    go_enter Try.func34, Try.ntmps34
    go_wp2_with (first | (go_at_call 62; refine HO.out.mono ?_; rintro e w' ⟨rfl, rfl⟩) | (go_at_call 63; refine HF.out.mono ?_; rintro e w' ⟨rfl, rfl⟩))
    go_ret
    exact ⟨rfl, rfl⟩
end Go.Proofs.Ytjgkblgilnfpfaa
/-
  The exact laws on MaskOk and MeetsMask, walked.
-/
namespace Go.Proofs.Ytjgkblgilnfpfaa
open Go.RowKit
set_option linter.unusedVariables false

set_option maxRecDepth 100000 in
set_option maxHeartbeats 4000000 in
theorem lawMaskOk_gen (a0 : Option Addr) (n0 c0 : Nat) (m0 : List (List Int)) (a1 : Option Addr) (n1 c1 : Nat) (r1 : List Int) (a2 : Option Addr) (n2 c2 : Nat) (r2 : List Int) (w : World) (hin0 : InMat w (.slice a0 n0 c0) m0) (hin1 : InRow w (.slice a1 n1 c1) r1) (hin2 : InRow w (.slice a2 n2 c2) r2) (v_0 : Bool) 
    (hs : ∀ (v0 v1 v2 : Value) (w : World), InMat w v0 m0 → InRow w v1 r1 → InRow w v2 r2 → Calls Try.prog 31 #[v0, v1, v2] w (fun e w' => e = .returned (.bool v_0) ∧ Below w.heap.size w w'))
    (hi : ∀ (v0 v1 v2 : Value) (w : World), InMat w v0 m0 → InRow w v1 r1 → InRow w v2 r2 → Calls Try.prog 12 #[v0, v1, v2] w (fun e w' => e = .returned (.bool v_0) ∧ Below w.heap.size w w')) :
    Calls Try.prog 7 #[.slice a0 n0 c0, .slice a1 n1 c1, .slice a2 n2 c2] w fun e w' => e = .returned (.bool true) ∧ Below w.heap.size w w' := by
  have HI0 := hide hin0
  obtain ⟨a', c', he, hm0, -⟩ := hin0
  cases he
  unfold maxLen at hm0
  have HI1 := hide hin1
  obtain ⟨a', c', he, hm1, -⟩ := hin1
  cases he
  unfold maxLen at hm1
  have HI2 := hide hin2
  obtain ⟨a', c', he, hm2, -⟩ := hin2
  cases he
  unfold maxLen at hm2
  by_cases hr1 : 1048576 < r1.length
  · clear hs hi
    obtain ⟨R0, hR0⟩ : ∃ x, x = m0.length := ⟨_, rfl⟩
    obtain ⟨R1, hR1⟩ : ∃ x, x = r1.length := ⟨_, rfl⟩
    obtain ⟨R2, hR2⟩ : ∃ x, x = r2.length := ⟨_, rfl⟩
    rw [← hR0] at HI0 hm0 ⊢
    rw [← hR1] at HI1 hm1 hr1 ⊢
    rw [← hR2] at HI2 hm2 ⊢
    clear hR0 hR1 hR2
    go_enter Try.func7, Try.ntmps7
    go_wp2
    go_ret
    exact ⟨rfl, Below.refl _ _⟩
  · by_cases hr2 : 1048576 < r2.length
    · clear hs hi
      obtain ⟨R0, hR0⟩ : ∃ x, x = m0.length := ⟨_, rfl⟩
      obtain ⟨R1, hR1⟩ : ∃ x, x = r1.length := ⟨_, rfl⟩
      obtain ⟨R2, hR2⟩ : ∃ x, x = r2.length := ⟨_, rfl⟩
      rw [← hR0] at HI0 hm0 ⊢
      rw [← hR1] at HI1 hm1 hr1 ⊢
      rw [← hR2] at HI2 hm2 hr2 ⊢
      clear hR0 hR1 hR2
      go_enter Try.func7, Try.ntmps7
      go_wp2
      go_ret
      exact ⟨rfl, Below.refl _ _⟩
    · skip
      have HR1 : Hid (r1.length ≤ 2000000) := hide (by omega)
      have HR2 : Hid (r2.length ≤ 2000000) := hide (by omega)
      have hbb0 : (v_0 != v_0) = false := by cases v_0 <;> rfl
      go_enter Try.func7, Try.ntmps7
      go_wp2_with fail
      refine (szIntSS_any _ m0 (1048576) _ (by omega) HI0.out).mono ?_
      rintro e w1 ⟨q0, rfl, hq0, hb⟩
      have HB1 := hide (hb)
      have s1 := hb.size
      clear hb
      rcases hq0 with rfl | ⟨hsz0, rfl⟩
      · go_wp2
        go_ret
        exact ⟨rfl, HB1.out⟩
      · skip
        have HZ0 : Hid (m0.length + cellsM m0 ≤ 1048576) := hide (by omega)
        have HS := hide (hs); have HM := hide (hi)
        clear hs hi
        go_wp2_with fail
        refine (toIntSS_any _ m0 _ (by have := HZ0.out; omega) (inMat_below HI0.out HB1.out)).mono ?_
        rintro e w2 ⟨p0, rfl, ho, hb⟩
        have P0_2 := hide (ho)
        have HB2 := hide (HB1.out.trans (hb.mono HB1.out.size))
        have s2 := hb.size
        clear ho hb
        go_wp2_with fail
        refine (toIntS_any _ r1 _ HR1.out (inRow_below HI1.out HB2.out)).mono ?_
        rintro e w3 ⟨p1, rfl, ho, hb⟩
        have P0_3 := hide (ownMat_below P0_2.out hb)
        have P1L := hide (fun k e => (ho).lt k e)
        have P1_3 := hide (ho)
        have HB3 := hide (HB2.out.trans (hb.mono HB2.out.size))
        have s3 := hb.size
        clear ho hb
        go_wp2_with fail
        refine (toIntS_any _ r2 _ HR2.out (inRow_below HI2.out HB3.out)).mono ?_
        rintro e w4 ⟨p2, rfl, ho, hb⟩
        have P0_4 := hide (ownMat_below P0_3.out hb)
        have P1_4 := hide (own_below P1_3.out hb)
        have P2L := hide (fun k e => (ho).lt k e)
        have P2_4 := hide (ho)
        have HB4 := hide (HB3.out.trans (hb.mono HB3.out.size))
        have s4 := hb.size
        clear ho hb
        go_wp2_with fail
        refine (HS.out p0 p1 p2 _ (inMat_own P0_4.out) (inRow_own P1_4.out) (inRow_own P2_4.out)).mono ?_
        rintro e w5 ⟨rfl, hb⟩
        have HB5 := hide (HB4.out.trans (hb.mono HB4.out.size))
        have s5 := hb.size
        clear hb
        go_wp2_with fail
        refine (toIntSS_any _ m0 _ (by have := HZ0.out; omega) (inMat_below HI0.out HB5.out)).mono ?_
        rintro e w6 ⟨x0, rfl, ho, hb⟩
        have X0_6 := hide (ho)
        have HB6 := hide (HB5.out.trans (hb.mono HB5.out.size))
        have s6 := hb.size
        clear ho hb
        go_wp2_with fail
        refine (toIntS_any _ r1 _ HR1.out (inRow_below HI1.out HB6.out)).mono ?_
        rintro e w7 ⟨x1, rfl, ho, hb⟩
        have X0_7 := hide (ownMat_below X0_6.out hb)
        have X1L := hide (fun k e => (ho).lt k e)
        have X1_7 := hide (ho)
        have HB7 := hide (HB6.out.trans (hb.mono HB6.out.size))
        have s7 := hb.size
        clear ho hb
        go_wp2_with fail
        refine (toIntS_any _ r2 _ HR2.out (inRow_below HI2.out HB7.out)).mono ?_
        rintro e w8 ⟨x2, rfl, ho, hb⟩
        have X0_8 := hide (ownMat_below X0_7.out hb)
        have X1_8 := hide (own_below X1_7.out hb)
        have X2L := hide (fun k e => (ho).lt k e)
        have X2_8 := hide (ho)
        have HB8 := hide (HB7.out.trans (hb.mono HB7.out.size))
        have s8 := hb.size
        clear ho hb
        go_wp2_with fail
        refine (HM.out x0 x1 x2 _ (inMat_own X0_8.out) (inRow_own X1_8.out) (inRow_own X2_8.out)).mono ?_
        rintro e w9 ⟨rfl, hb⟩
        have X0_9 := hide (ownMat_below X0_8.out hb)
        have X1_9 := hide (own_below X1_8.out hb)
        have X2_9 := hide (own_below X2_8.out hb)
        have HB9 := hide (HB8.out.trans (hb.mono HB8.out.size))
        have s9 := hb.size
        clear hb
        go_wp2_with fail
        refine (toIntSS_any _ m0 _ (by have := HZ0.out; omega) (inMat_below HI0.out HB9.out)).mono ?_
        rintro e w10 ⟨z0, rfl, ho, hb⟩
        have X0_10 := hide (ownMat_below X0_9.out hb)
        have X1_10 := hide (own_below X1_9.out hb)
        have X2_10 := hide (own_below X2_9.out hb)
        have Z0_10 := hide (ho)
        have HB10 := hide (HB9.out.trans (hb.mono HB9.out.size))
        have s10 := hb.size
        clear ho hb
        go_wp2_with fail
        refine (eqIntSS_same x0 z0 m0 _ (inMat_own X0_10.out) (inMat_own Z0_10.out)).mono ?_
        rintro e w11 ⟨rfl, hb⟩
        have X0_11 := hide (ownMat_below X0_10.out hb)
        have X1_11 := hide (own_below X1_10.out hb)
        have X2_11 := hide (own_below X2_10.out hb)
        have HB11 := hide (HB10.out.trans (hb.mono HB10.out.size))
        have s11 := hb.size
        clear hb
        go_wp2_with fail
        refine (toIntS_any _ r1 _ HR1.out (inRow_below HI1.out HB11.out)).mono ?_
        rintro e w12 ⟨z1, rfl, ho, hb⟩
        have X0_12 := hide (ownMat_below X0_11.out hb)
        have X1_12 := hide (own_below X1_11.out hb)
        have X2_12 := hide (own_below X2_11.out hb)
        have Z1L := hide (fun k e => (ho).lt k e)
        have Z1_12 := hide (ho)
        have HB12 := hide (HB11.out.trans (hb.mono HB11.out.size))
        have s12 := hb.size
        clear ho hb
        go_wp2_with fail
        refine (eqIntS_same x1 z1 r1 _ (inRow_own X1_12.out) (inRow_own Z1_12.out)).mono ?_
        rintro e w13 ⟨rfl, hb⟩
        have X0_13 := hide (ownMat_below X0_12.out hb)
        have X1_13 := hide (own_below X1_12.out hb)
        have X2_13 := hide (own_below X2_12.out hb)
        have HB13 := hide (HB12.out.trans (hb.mono HB12.out.size))
        have s13 := hb.size
        clear hb
        go_wp2_with fail
        refine (toIntS_any _ r2 _ HR2.out (inRow_below HI2.out HB13.out)).mono ?_
        rintro e w14 ⟨z2, rfl, ho, hb⟩
        have X0_14 := hide (ownMat_below X0_13.out hb)
        have X1_14 := hide (own_below X1_13.out hb)
        have X2_14 := hide (own_below X2_13.out hb)
        have Z2L := hide (fun k e => (ho).lt k e)
        have Z2_14 := hide (ho)
        have HB14 := hide (HB13.out.trans (hb.mono HB13.out.size))
        have s14 := hb.size
        clear ho hb
        go_wp2_with fail
        refine (eqIntS_same x2 z2 r2 _ (inRow_own X2_14.out) (inRow_own Z2_14.out)).mono ?_
        rintro e w15 ⟨rfl, hb⟩
        have X0_15 := hide (ownMat_below X0_14.out hb)
        have X1_15 := hide (own_below X1_14.out hb)
        have X2_15 := hide (own_below X2_14.out hb)
        have HB15 := hide (HB14.out.trans (hb.mono HB14.out.size))
        have s15 := hb.size
        clear hb
        go_wp2
        go_ret
        exact ⟨rfl, HB15.out⟩

set_option maxRecDepth 100000 in
set_option maxHeartbeats 4000000 in
theorem lawMeetsMask_gen (a0 : Option Addr) (n0 c0 : Nat) (m0 : List (List Int)) (a1 : Option Addr) (n1 c1 : Nat) (m1 : List (List Int)) (w : World) (hin0 : InMat w (.slice a0 n0 c0) m0) (hin1 : InMat w (.slice a1 n1 c1) m1) (v_0 : Bool) 
    (hs : ∀ (v0 v1 : Value) (w : World), InMat w v0 m0 → InMat w v1 m1 → Calls Try.prog 33 #[v0, v1] w (fun e w' => e = .returned (.bool v_0) ∧ Below w.heap.size w w'))
    (hi : ∀ (v0 v1 : Value) (w : World), InMat w v0 m0 → InMat w v1 m1 → Calls Try.prog 34 #[v0, v1] w (fun e w' => e = .returned (.bool v_0) ∧ Below w.heap.size w w')) :
    Calls Try.prog 8 #[.slice a0 n0 c0, .slice a1 n1 c1] w fun e w' => e = .returned (.bool true) ∧ Below w.heap.size w w' := by
  have HI0 := hide hin0
  obtain ⟨a', c', he, hm0, -⟩ := hin0
  cases he
  unfold maxLen at hm0
  have HI1 := hide hin1
  obtain ⟨a', c', he, hm1, -⟩ := hin1
  cases he
  unfold maxLen at hm1
  have hbb0 : (v_0 != v_0) = false := by cases v_0 <;> rfl
  go_enter Try.func8, Try.ntmps8
  go_wp2_with fail
  refine (szIntSS_any _ m0 (1048576) _ (by omega) HI0.out).mono ?_
  rintro e w1 ⟨q0, rfl, hq0, hb⟩
  have HB1 := hide (hb)
  have s1 := hb.size
  clear hb
  rcases hq0 with rfl | ⟨hsz0, rfl⟩
  · go_wp2
    go_ret
    exact ⟨rfl, HB1.out⟩
  · skip
    have HZ0 : Hid (m0.length + cellsM m0 ≤ 1048576) := hide (by omega)
    go_wp2_with fail
    refine (szIntSS_any _ m1 (1048576 - m0.length - cellsM m0) _ (by omega) (inMat_below HI1.out HB1.out)).mono ?_
    rintro e w2 ⟨q1, rfl, hq1, hb⟩
    have HB2 := hide (HB1.out.trans (hb.mono HB1.out.size))
    have s2 := hb.size
    clear hb
    rcases hq1 with rfl | ⟨hsz1, rfl⟩
    · go_wp2
      go_ret
      exact ⟨rfl, HB2.out⟩
    · skip
      have HZ1 : Hid (m1.length + cellsM m1 ≤ 1048576) := hide (by omega)
      have HS := hide (hs); have HM := hide (hi)
      clear hs hi
      go_wp2_with fail
      refine (toIntSS_any _ m0 _ (by have := HZ0.out; omega) (inMat_below HI0.out HB2.out)).mono ?_
      rintro e w3 ⟨p0, rfl, ho, hb⟩
      have P0_3 := hide (ho)
      have HB3 := hide (HB2.out.trans (hb.mono HB2.out.size))
      have s3 := hb.size
      clear ho hb
      go_wp2_with fail
      refine (toIntSS_any _ m1 _ (by have := HZ1.out; omega) (inMat_below HI1.out HB3.out)).mono ?_
      rintro e w4 ⟨p1, rfl, ho, hb⟩
      have P0_4 := hide (ownMat_below P0_3.out hb)
      have P1_4 := hide (ho)
      have HB4 := hide (HB3.out.trans (hb.mono HB3.out.size))
      have s4 := hb.size
      clear ho hb
      go_wp2_with fail
      refine (HS.out p0 p1 _ (inMat_own P0_4.out) (inMat_own P1_4.out)).mono ?_
      rintro e w5 ⟨rfl, hb⟩
      have HB5 := hide (HB4.out.trans (hb.mono HB4.out.size))
      have s5 := hb.size
      clear hb
      go_wp2_with fail
      refine (toIntSS_any _ m0 _ (by have := HZ0.out; omega) (inMat_below HI0.out HB5.out)).mono ?_
      rintro e w6 ⟨x0, rfl, ho, hb⟩
      have X0_6 := hide (ho)
      have HB6 := hide (HB5.out.trans (hb.mono HB5.out.size))
      have s6 := hb.size
      clear ho hb
      go_wp2_with fail
      refine (toIntSS_any _ m1 _ (by have := HZ1.out; omega) (inMat_below HI1.out HB6.out)).mono ?_
      rintro e w7 ⟨x1, rfl, ho, hb⟩
      have X0_7 := hide (ownMat_below X0_6.out hb)
      have X1_7 := hide (ho)
      have HB7 := hide (HB6.out.trans (hb.mono HB6.out.size))
      have s7 := hb.size
      clear ho hb
      go_wp2_with fail
      refine (HM.out x0 x1 _ (inMat_own X0_7.out) (inMat_own X1_7.out)).mono ?_
      rintro e w8 ⟨rfl, hb⟩
      have X0_8 := hide (ownMat_below X0_7.out hb)
      have X1_8 := hide (ownMat_below X1_7.out hb)
      have HB8 := hide (HB7.out.trans (hb.mono HB7.out.size))
      have s8 := hb.size
      clear hb
      go_wp2_with fail
      refine (toIntSS_any _ m0 _ (by have := HZ0.out; omega) (inMat_below HI0.out HB8.out)).mono ?_
      rintro e w9 ⟨z0, rfl, ho, hb⟩
      have X0_9 := hide (ownMat_below X0_8.out hb)
      have X1_9 := hide (ownMat_below X1_8.out hb)
      have Z0_9 := hide (ho)
      have HB9 := hide (HB8.out.trans (hb.mono HB8.out.size))
      have s9 := hb.size
      clear ho hb
      go_wp2_with fail
      refine (eqIntSS_same x0 z0 m0 _ (inMat_own X0_9.out) (inMat_own Z0_9.out)).mono ?_
      rintro e w10 ⟨rfl, hb⟩
      have X0_10 := hide (ownMat_below X0_9.out hb)
      have X1_10 := hide (ownMat_below X1_9.out hb)
      have HB10 := hide (HB9.out.trans (hb.mono HB9.out.size))
      have s10 := hb.size
      clear hb
      go_wp2_with fail
      refine (toIntSS_any _ m1 _ (by have := HZ1.out; omega) (inMat_below HI1.out HB10.out)).mono ?_
      rintro e w11 ⟨z1, rfl, ho, hb⟩
      have X0_11 := hide (ownMat_below X0_10.out hb)
      have X1_11 := hide (ownMat_below X1_10.out hb)
      have Z1_11 := hide (ho)
      have HB11 := hide (HB10.out.trans (hb.mono HB10.out.size))
      have s11 := hb.size
      clear ho hb
      go_wp2_with fail
      refine (eqIntSS_same x1 z1 m1 _ (inMat_own X1_11.out) (inMat_own Z1_11.out)).mono ?_
      rintro e w12 ⟨rfl, hb⟩
      have X0_12 := hide (ownMat_below X0_11.out hb)
      have X1_12 := hide (ownMat_below X1_11.out hb)
      have HB12 := hide (HB11.out.trans (hb.mono HB11.out.size))
      have s12 := hb.size
      clear hb
      go_wp2
      go_ret
      exact ⟨rfl, HB12.out⟩

theorem lawMaskOk_walk (a0 : Option Addr) (n0 c0 : Nat) (m0 : List (List Int)) (a1 : Option Addr) (n1 c1 : Nat) (r1 : List Int) (a2 : Option Addr) (n2 c2 : Nat) (r2 : List Int) (w : World) (hin0 : InMat w (.slice a0 n0 c0) m0) (hin1 : InRow w (.slice a1 n1 c1) r1) (hin2 : InRow w (.slice a2 n2 c2) r2) :
    Calls Try.prog 7 #[.slice a0 n0 c0, .slice a1 n1 c1, .slice a2 n2 c2] w fun e w' => e = .returned (.bool true) ∧ Below w.heap.size w w' :=
  lawMaskOk_gen a0 n0 c0 m0 a1 n1 c1 r1 a2 n2 c2 r2 w hin0 hin1 hin2 (maskB m0 r1 r2) (fun v0 v1 v2 w h0 h1 h2 => specMaskOk_any v0 v1 v2 m0 r1 r2 w h0 h1 h2) (fun v0 v1 v2 w h0 h1 h2 => implMaskOk_any v0 v1 v2 m0 r1 r2 w h0 h1 h2)
theorem same_below {P : Program} {f : FuncId} {a : Array Value} {w : World} {Q : Ending → Prop} (h : Calls P f a w fun e w' => Q e ∧ w = w') : Calls P f a w fun e w' => Q e ∧ Below w.heap.size w w' :=
  h.mono (by rintro e w' ⟨h1, rfl⟩; exact ⟨h1, Below.refl _ _⟩)
theorem lawMeetsMask_walk (a0 : Option Addr) (n0 c0 : Nat) (m0 : List (List Int)) (a1 : Option Addr) (n1 c1 : Nat) (m1 : List (List Int)) (w : World) (hin0 : InMat w (.slice a0 n0 c0) m0) (hin1 : InMat w (.slice a1 n1 c1) m1) :
    Calls Try.prog 8 #[.slice a0 n0 c0, .slice a1 n1 c1] w fun e w' => e = .returned (.bool true) ∧ Below w.heap.size w w' :=
  lawMeetsMask_gen a0 n0 c0 m0 a1 n1 c1 m1 w hin0 hin1 (meetsB m0 m1) (fun v0 v1 w h0 h1 => same_below (specMeets_any v0 v1 m0 m1 w h0 h1)) (fun v0 v1 w h0 h1 => same_below (implMeets_any v0 v1 m0 m1 w h0 h1))
end Go.Proofs.Ytjgkblgilnfpfaa
