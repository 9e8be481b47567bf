/-
  Texts of this claim, one behind the other: AllQ, MskP, MskW, MskS, EachF.
-/
import Derived.Test.YtbogeghoekmbhaaGreatPackN
import Derived.Test.YtbogeghoekmbhaaGreatPackC
import Derived.Test.YtbogeghoekmbhaaGreatPackJ
import Derived.Test.YtbogeghoekmbhaaGreatRows
import Derived.RangeFuncBox
import Derived.RangeFuncLeaves
import Derived.RangeFuncBound
import Derived.Shelf.Abstract
import Derived.OwnWalkIn
import Derived.TacticsInMore
import Derived.LoopNIn
import Derived.LoopIn
/-
  AllImages and CountImages of the model.
-/
namespace Go.Proofs.YtbogeghoekmbhaaGreat
open Go.RowKit

/-- All images with given sums; none where the sums are refused. -/
def allIm (r c : List Int) : List (List (List Int)) := if existsOf r c = true then allL r c else []
def countIm (r c : List Int) : Int := if sumsOk r c = true then ((allIm r c).length : Int) else -1
theorem allL_none {r c : List Int} (h : sumsOk r c = true) (he : existsOf r c = false) : allL r c = [] := by
  obtain ⟨hr, hc, -⟩ := sumsOk_yes h
  cases r with
  | nil => simp at hr
  | cons a r =>
    rw [allL, List.flatMap_eq_nil_iff]
    intro row hrow
    cases hb : restB r (subL c row) with
    | false => simp
    | true =>
      exfalso
      have h1 := (restB_iff (by simp at hr; omega) (by rw [subL_len]; exact hc)).1 hb
      have h2 := exists_of_img hr hc ((hasImg_cons a r c).2 ⟨row, (mem_rowsL _ _ _).1 hrow, h1⟩)
      rw [he] at h2; cases h2
theorem allIm_sums {r c : List Int} (h : sumsOk r c = true) : allIm r c = allL r c := by
  unfold allIm
  cases he : existsOf r c with
  | true => simp
  | false => simp [allL_none h he]
theorem allIm_refused {r c : List Int} (h : sumsOk r c = false) : allIm r c = [] := by
  unfold allIm
  rw [if_neg]
  intro he
  rw [existsOf_sums he] at h; cases h
theorem allIm_len (r c : List Int) : (allIm r c).length ≤ 100000 := by
  unfold allIm
  split
  · rename_i h
    obtain ⟨hr, hc, -⟩ := sumsOk_yes (existsOf_sums h)
    refine Nat.le_trans (allL_len r c hc.2) ?_
    exact Nat.le_trans (Nat.pow_le_pow_right (by decide) hr.2) (by decide)
  · simp
/-- The call answers a list of lists of lists of its own, and a bool. -/
def ImgsRes2 (ms : List (List (List Int))) (b : Bool) (w : World) (e : Ending) (w' : World) : Prop := ∃ v, e = .returned (.tuple #[v, .bool b]) ∧ OwnImgs w' w.heap.size v ms ∧ Below w.heap.size w w'
theorem ownImgs_nil (w : World) (lo : Nat) : OwnImgs w lo (.slice none 0 0) [] := ⟨[], World.ownsRow_nil _ _ _ _, fun _ h => absurd h (Nat.not_lt_zero _)⟩

set_option maxHeartbeats 400000 in
theorem specAllIm_any (va vb : Value) (r c : List Int) (w : World) (ha : RowC w va r) (hb : RowC w vb c) :
    Calls Tryz.prog 29 #[va, vb] w (ImgsRes2 (allIm r c) (sumsOk r c) w) := by
  have HA := hide ha.1; have HB := hide hb.1
  cases h : sumsOk r c with
  | false =>
    rw [allIm_refused h]
    have H := hide h
    clear h ha hb
    go_enter Tryz.func29, Tryz.ntmps29
    go_wp2_with ((with_reducible refine (specSumsOk_any va vb r c _ HA.out HB.out).mono ?_); rw [H.out]; rintro e w1 ⟨rfl, b1⟩; have B1 := hide b1; clear b1)
    go_ret2
    exact ⟨_, rfl, ownImgs_nil _ _, B1.out⟩
  | true =>
    have H := hide h
    cases he : existsOf r c with
    | false =>
      rw [allIm_sums h, allL_none h he]
      have HE := hide he
      clear h he ha hb
      go_enter Tryz.func29, Tryz.ntmps29
      go_wp2_with (first | ((with_reducible refine (specSumsOk_any va vb r c _ HA.out HB.out).mono ?_); rw [H.out]; rintro e w1 ⟨rfl, b1⟩; have B1 := hide b1; clear b1) | ((with_reducible refine (specExists_any va vb r c _ (inRow_below HA.out B1.out) (inRow_below HB.out B1.out)).mono ?_); rw [HE.out]; rintro e w2 ⟨rfl, b2⟩; have B2 := hide (B1.out.trans (b2.mono B1.out.size)); clear b2))
      go_ret2
      exact ⟨_, rfl, ownImgs_nil _ _, B2.out⟩
    | true =>
      rw [allIm_sums h]
      have HE := hide he
      have HALL := hide fun (w' : World) (hw : Below w.heap.size w w') => specAll_start r c va vb w w' ha hb.1 he hw
      obtain ⟨xa, ca, hva, -, -⟩ := ha.1
      obtain ⟨xb, cb, hvb, -, -⟩ := hb.1
      subst hva hvb
      obtain ⟨R, hR⟩ : ∃ R, R = r.length := ⟨_, rfl⟩
      obtain ⟨C, hC⟩ : ∃ C, C = c.length := ⟨_, rfl⟩
      rw [← hR] at HA HALL ⊢
      rw [← hC] at HB HALL ⊢
      clear h he ha hb hR hC
      go_enter Tryz.func29, Tryz.ntmps29
      go_wp2_with (first | ((with_reducible refine (specSumsOk_any _ _ r c _ HA.out HB.out).mono ?_); rw [H.out]; rintro e w1 ⟨rfl, b1⟩; have B1 := hide b1; clear b1) | ((with_reducible refine (specExists_any _ _ r c _ (inRow_below HA.out B1.out) (inRow_below HB.out B1.out)).mono ?_); rw [HE.out]; rintro e w2 ⟨rfl, b2⟩; have B2 := hide (B1.out.trans (b2.mono B1.out.size)); clear b2) | ((with_reducible refine (HALL.out _ B2.out).mono ?_); rintro e w3 ⟨u, rfl, ⟨us, hv, hm⟩, hb3⟩; obtain ⟨au, cu, rfl⟩ := own_slice hv; have HR3 := hide (And.intro (show OwnImgs _ _ _ _ from ⟨us, hv, hm⟩) hb3); clear hv hm hb3))
      go_ret2
      exact ⟨_, rfl, HR3.out.1, HR3.out.2⟩

end Go.Proofs.YtbogeghoekmbhaaGreat
/-
  Masks: what meets them, all images that do, and when there is none.
-/
namespace Go.Proofs.YtbogeghoekmbhaaGreat
open Go.RowKit Mx

/-- Two lists of one length whose elements fit, one by one. -/
def eqBy {α β : Type} (p : α → β → Bool) : List α → List β → Bool
  | [], [] => true
  | a :: l, b :: k => p a b && eqBy p l k
  | _, _ => false
theorem eqBy_len {α β : Type} {p : α → β → Bool} : ∀ {l : List α} {k : List β}, eqBy p l k = true → l.length = k.length
  | [], [], _ => rfl
  | a :: l, b :: k, h => by
    simp only [eqBy, Bool.and_eq_true] at h
    simp [eqBy_len h.2]
  | [], _ :: _, h => by simp [eqBy] at h
  | _ :: _, [], h => by simp [eqBy] at h
theorem eqBy_at {α β : Type} {p : α → β → Bool} : ∀ {l : List α} {k : List β} (i : Nat) (h1 : i < l.length) (h2 : i < k.length), eqBy p l k = true → p l[i] k[i] = true
  | a :: l, b :: k, 0, _, _, h => by simp only [eqBy, Bool.and_eq_true] at h; exact h.1
  | a :: l, b :: k, i + 1, h1, h2, h => by
    simp only [eqBy, Bool.and_eq_true] at h
    simpa using eqBy_at i (by simpa using h1) (by simpa using h2) h.2
theorem eqBy_yes {α β : Type} {p : α → β → Bool} : ∀ {l : List α} {k : List β}, l.length = k.length → (∀ i (h1 : i < l.length) (h2 : i < k.length), p l[i] k[i] = true) → eqBy p l k = true
  | [], [], _, _ => rfl
  | a :: l, b :: k, h, hp => by
    simp only [eqBy, Bool.and_eq_true]
    exact ⟨hp 0 (by simp) (by simp), eqBy_yes (by simpa using h) fun i h1 h2 => hp (i + 1) (by simpa using h1) (by simpa using h2)⟩
  | [], _ :: _, h, _ => by simp at h
  | _ :: _, [], h, _ => by simp at h
theorem eqBy_no1 {α β : Type} {p : α → β → Bool} {l : List α} {k : List β} (h : l.length ≠ k.length) : eqBy p l k = false := by
  cases e : eqBy p l k with
  | false => rfl
  | true => exact absurd (eqBy_len e) h
theorem eqBy_no2 {α β : Type} {p : α → β → Bool} {l : List α} {k : List β} (i : Nat) (h1 : i < l.length) (h2 : i < k.length) (h : p l[i] k[i] = false) : eqBy p l k = false := by
  cases e : eqBy p l k with
  | false => rfl
  | true => have := eqBy_at i h1 h2 e; rw [h] at this; cases this

/-- A cell meets an element of a mask. -/
def meetC (c k : Int) : Bool := k == -1 || k == c
def meetR : List Int → List Int → Bool := eqBy meetC
def meetM : List (List Int) → List (List Int) → Bool := eqBy meetR
def meetsB (m k : List (List Int)) : Bool := okB m && meetM m k
def maskRowB (C : Nat) (q : List Int) : Bool := q.length == C && q.all fun x => x == -1 || cellOk x
def maskB (k : List (List Int)) (r c : List Int) : Bool := sumsOk r c && k.length == r.length && k.all (maskRowB c.length)

/-- All images whose rows are chosen so, row by row: p says of a row, before these sums of the rows below, whether it may stand there. -/
def imL (p : List Int → List Int → Bool) : List Int → List Int → List (List (List Int))
  | [], _ => [[]]
  | a :: r, c => ((firstRows a r c).filter (p r)).flatMap fun row => (imL p r (subL c row)).map (row :: ·)
theorem imL_all : ∀ (r c : List Int), imL (fun _ _ => true) r c = allL r c
  | [], _ => rfl
  | a :: r, c => by
    rw [imL, allL, List.filter_eq_self.2 (fun _ _ => rfl), firstRows, flat_filterM]
    exact congrArg (List.flatMap · _) (funext fun row => by rw [imL_all r])
where
  flat_filterM {α β : Type} (p : α → Bool) (f : α → List β) : ∀ l : List α, (l.filter p).flatMap f = l.flatMap fun x => if p x then f x else []
  | [] => rfl
  | x :: l => by
    rw [List.flatMap_cons, List.filter_cons, ← flat_filterM p f l]
    cases p x <;> simp
theorem imL_sub (p : List Int → List Int → Bool) : ∀ (r c : List Int), ∀ {m : List (List Int)}, m ∈ imL p r c → m ∈ allL r c
  | [], _, _, h => h
  | a :: r, c, m, h => by
    rw [imL, List.mem_flatMap] at h
    obtain ⟨row, h1, h2⟩ := h
    obtain ⟨m', h3, rfl⟩ := List.mem_map.1 h2
    obtain ⟨h4, -⟩ := List.mem_filter.1 h1
    obtain ⟨h5, h6⟩ := List.mem_filter.1 h4
    rw [allL, List.mem_flatMap]
    exact ⟨row, h5, by rw [if_pos h6]; exact List.mem_map.2 ⟨m', imL_sub p r _ h3, rfl⟩⟩
/-- The row of a mask that stands before so many rows. -/
def maskP (k : List (List Int)) (r row : List Int) : Bool := meetR row (k.getD (k.length - (r.length + 1)) [])
theorem filter_map_cons {α : Type} (q : List α → Bool) (x : α) : ∀ l : List (List α), (l.map (x :: ·)).filter q = (l.filter fun m => q (x :: m)).map (x :: ·)
  | [] => rfl
  | m :: l => by
    rw [List.map_cons, List.filter_cons, List.filter_cons, filter_map_cons q x l]
    cases q (x :: m) <;> simp
theorem filter_flat {α β : Type} (q : β → Bool) (f : α → List β) : ∀ l : List α, (l.flatMap f).filter q = l.flatMap fun x => (f x).filter q
  | [] => rfl
  | x :: l => by rw [List.flatMap_cons, List.flatMap_cons, List.filter_append, filter_flat q f l]
theorem imL_mask : ∀ (r c : List Int) (k : List (List Int)), r.length ≤ k.length → imL (maskP k) r c = (allL r c).filter fun m => meetM m (k.drop (k.length - r.length))
  | [], c, k, _ => by
    rw [imL, allL, List.length_nil, Nat.sub_zero, List.drop_length]; rfl
  | a :: r, c, k, h => by
    rw [List.length_cons] at h
    have hd : k.drop (k.length - (r.length + 1)) = k.getD (k.length - (r.length + 1)) [] :: k.drop (k.length - r.length) := by
      rw [List.drop_eq_getElem_cons (by omega), List.getD_eq_getElem?_getD, List.getElem?_eq_getElem (by omega), Option.getD_some, show k.length - (r.length + 1) + 1 = k.length - r.length by omega]
    rw [imL, List.length_cons, hd, ← imL_all, imL, filter_flat, List.filter_eq_self.2 (fun _ _ => rfl), imL_all.flat_filterM]
    refine congrArg (List.flatMap · _) (funext fun row => ?_)
    rw [filter_map_cons, imL_all, imL_mask r (subL c row) k (by omega)]
    have hp : ∀ m, meetM (row :: m) (k.getD (k.length - (r.length + 1)) [] :: k.drop (k.length - r.length)) = (maskP k r row && meetM m (k.drop (k.length - r.length))) := fun m => rfl
    cases hc : maskP k r row with
    | false =>
      rw [if_neg (by simp), List.filter_eq_nil_iff.2 (fun m _ => by rw [hp, hc]; simp)]; rfl
    | true =>
      rw [if_pos rfl]
      exact congrArg _ (List.filter_congr fun m _ => by rw [hp, hc, Bool.true_and])
/-- The images that meet a mask. -/
def maskedL (k : List (List Int)) (r c : List Int) : List (List (List Int)) := (allIm r c).filter fun m => meetM m k
theorem maskedL_im {k : List (List Int)} {r c : List Int} (h : maskB k r c = true) : imL (maskP k) r c = maskedL k r c := by
  unfold maskB at h
  simp only [Bool.and_eq_true, beq_iff_eq] at h
  rw [imL_mask r c k (by omega), h.1.2, Nat.sub_self, List.drop_zero, maskedL, allIm_sums h.1.1]
def maskedImB (k : List (List Int)) (r c : List Int) : Bool := maskB k r c && !(maskedL k r c).isEmpty
def maskedIm (k : List (List Int)) (r c : List Int) : List (List Int) := if maskB k r c = true then (maskedL k r c).headD [] else []
def maskedCnt (k : List (List Int)) (r c : List Int) : Int := if maskB k r c = true then ((maskedL k r c).length : Int) else -1
end Go.Proofs.YtbogeghoekmbhaaGreat
/-
  Masks: MaskOk and MeetsMask, of the program and of the model.
-/
namespace Go.Proofs.YtbogeghoekmbhaaGreat
open Go.RowKit Go.Shelf

theorem cellMeets_any (x k : Int) (w : World) :
    Calls Tryz.prog 90 #[.int .i64 x, .int .i64 k] w fun e w' => e = .returned (.bool (meetC x k)) ∧ w = w' := by
  by_cases h1 : k = -1
  · subst h1
    go_enter Tryz.func90, Tryz.ntmps90
    go_wp2
    go_ret
    exact ⟨rfl, rfl⟩
  · have h0 : (k == -1) = false := by simp [h1]
    have HM : Hid (meetC x k = (k == x)) := hide (by unfold meetC; rw [h0]; rfl)
    clear h1
    go_enter Tryz.func90, Tryz.ntmps90
    go_wp2
    go_ret
    exact ⟨ret_bool HM.out.symm, rfl⟩
theorem maskCellOk_any (x : Int) (w : World) :
    Calls Tryz.prog 84 #[.int .i64 x] w fun e w' => e = .returned (.bool (x == -1 || cellOk x)) ∧ w = w' := by
  by_cases h1 : x = -1
  · subst h1
    go_enter Tryz.func84, Tryz.ntmps84
    go_wp2
    go_ret
    exact ⟨rfl, rfl⟩
  · have h0 : (x == -1) = false := by simp [h1]
    rw [h0]
    have HC := hide fun w' => colorOk_any x w'
    obtain ⟨b, hb⟩ : ∃ b, b = cellOk x := ⟨_, rfl⟩
    rw [← hb] at HC ⊢
    clear h1 hb
    go_enter Tryz.func84, Tryz.ntmps84
    go_wp2_with (go_at_call 39; refine (HC.out _).mono ?_; rintro e w' ⟨rfl, rfl⟩)
    go_ret
    exact ⟨rfl, rfl⟩
theorem maskRowOk1_any (x : Int) (w : World) :
    Calls Tryz.prog 83 #[.int .i64 x] w fun e w' => e = .returned (.bool (!(x == -1 || cellOk x))) ∧ w = w' := by
  have HC := hide fun w' => maskCellOk_any x w'
  obtain ⟨b, hb⟩ : ∃ b, b = (x == -1 || cellOk x) := ⟨_, rfl⟩
  rw [← hb] at HC ⊢
  clear hb
  go_enter Tryz.func83, Tryz.ntmps83
  go_wp2_with (go_at_call 84; refine (HC.out _).mono ?_; rintro e w' ⟨rfl, rfl⟩)
  go_ret
  exact ⟨rfl, rfl⟩

/-- What a function value answers of an integer, reading nothing. -/
def IntPred (g : Nat) (cb : Array Value) (p : Int → Bool) : Prop := ∀ (x : Int) (w : World), Calls Tryz.prog g (#[.int .i64 x] ++ cb) w fun e w' => e = .returned (.bool (p x)) ∧ w = w'
set_option maxHeartbeats 1000000 in
theorem idxInts_any (v : Value) (r : List Int) (g : Nat) (cb : Array Value) (p : Int → Bool) (w : World) (eg : ∀ args w, (callFunc g args).run Tryz.prog w = .ok (.enter g args) w) (hin : InRow w v r) (hp : IntPred g cb p) :
    Calls Tryz.prog 99 #[v, .func (.func g) #[] cb] w (IdxRes (r.any p) w) := by
  have HP := hide hp
  clear hp
  obtain ⟨a, c, rfl, hm, hp⟩ := hin
  unfold maxLen at hm
  by_cases h0 : r.length = 0
  · have hr : r = [] := List.eq_nil_of_length_eq_zero h0
    subst hr
    clear hp h0 hm
    go_enter Tryz.func99, Tryz.ntmps99
    go_wp2
    go_loop [8] (fun i => i = .int .i64 0) (fun _ => 0)
    case atStart => rfl
    case round =>
      obtain rfl := hrel
      go_wp2
      go_ret
      exact ⟨-1, rfl, by omega, rfl, rfl⟩
  · obtain ⟨gr, o, rfl, hg, hc⟩ := hp.resolve_left h0
    have HC := hide hc
    obtain ⟨n, hn⟩ : ∃ n, n = r.length := ⟨_, rfl⟩
    have HN := hide hn
    rw [← hn] at hm ⊢
    clear hp hc h0 hn
    go_enter Tryz.func99, Tryz.ntmps99
    go_wp2
    go_loop [8] (fun i => ∃ k : Nat, k ≤ n ∧ i = .int .i64 k ∧ ∀ t, (h : t < r.length) → t < k → p r[t] = false) (fun i => n - (intOf i).toNat)
    case atStart => exact ⟨0, Nat.zero_le _, rfl, fun t _ h => absurd h (Nat.not_lt_zero _)⟩
    case round =>
      obtain ⟨k, hk, rfl, hall⟩ := hrel
      have HA := hide hall
      clear hall
      by_cases hlt : k < n
      · have hk' : k < r.length := by rw [← HN.out]; exact hlt
        have hx := HC.out k hk'
        have HNO := hide (fun h => any_yes (p := p) k hk' h)
        have HST : Hid (p r[k] = false → ∀ t, (h : t < r.length) → t < k + 1 → p r[t] = false) := hide fun h t h1 ht => by
          by_cases e : t = k
          · subst e; exact h
          · exact HA.out t h1 (by omega)
        obtain ⟨x, hxx⟩ : ∃ x, x = r[k] := ⟨_, rfl⟩
        rw [← hxx] at hx HNO HST
        clear hxx
        have HCALL := hide (fun w' => HP.out x w')
        obtain ⟨q, hq⟩ : ∃ q, q = p x := ⟨_, rfl⟩
        rw [← hq] at HCALL HNO HST
        clear hq
        cases q with
        | true =>
          have HF := hide (HNO.out rfl)
          clear HNO HST
          go_wp2_with (go_at_fn g; refine (HCALL.out _).mono ?_; rintro e w9 ⟨rfl, rfl⟩)
          go_ret
          exact ⟨k, rfl, by omega, by rw [HF.out]; simp, rfl⟩
        | false =>
          have HS2 := hide (HST.out rfl)
          clear HNO HST
          go_wp2_with (go_at_fn g; refine (HCALL.out _).mono ?_; rintro e w9 ⟨rfl, rfl⟩)
          go_round
          case rel => exact ⟨k + 1, by omega, by go_num, HS2.out⟩
          case measure => simp [intOf]; omega
      · have HY := hide (any_no (p := p) fun t h => HA.out t h (by have := HN.out; omega))
        go_wp2
        go_ret
        exact ⟨-1, rfl, by omega, by rw [HY.out]; rfl, rfl⟩
theorem containsInts_any (v : Value) (r : List Int) (g : Nat) (cb : Array Value) (p : Int → Bool) (w : World) (eg : ∀ args w, (callFunc g args).run Tryz.prog w = .ok (.enter g args) w) (hin : InRow w v r) (hp : IntPred g cb p) :
    Calls Tryz.prog 82 #[v, .func (.func g) #[] cb] w fun e w' => e = .returned (.bool (r.any p)) ∧ w = w' := by
  have HI := hide (idxInts_any v r g cb p w eg hin hp)
  clear hin hp eg
  go_enter Tryz.func82, Tryz.ntmps82
  go_wp2_with fail
  refine HI.out.mono ?_
  rintro e w1 ⟨i, rfl, hi, hb, rfl⟩
  have HB := hide hb
  clear hb HI
  by_cases h : 0 ≤ i
  · go_wp2
    go_ret
    exact ⟨ret_bool (by rw [HB.out]; simp [h]), rfl⟩
  · go_wp2
    go_ret
    exact ⟨ret_bool (by rw [HB.out]), rfl⟩
theorem any_not {α : Type} (p : α → Bool) (r : List α) : (!r.any fun x => !p x) = r.all p := by
  induction r with
  | nil => rfl
  | cons x r ih => rw [List.any_cons, List.all_cons, ← ih]; cases p x <;> simp
theorem maskRowOk_any (v : Value) (r : List Int) (C : Nat) (w : World) (hin : InRow w v r) :
    Calls Tryz.prog 55 #[v, .int .i64 C] w fun e w' => e = .returned (.bool (maskRowB C r)) ∧ w = w' := by
  have HI := hide hin
  obtain ⟨a, c, rfl, -, -⟩ := hin
  have HC := hide (containsInts_any _ r 83 #[] (fun x => !(x == -1 || cellOk x)) w (enters_of Tryz.func83 (by kernel_rfl) rfl) HI.out (fun x w' => maskRowOk1_any x w'))
  have HM : Hid (maskRowB C r = (r.length == C && !r.any fun x => !(x == -1 || cellOk x))) := hide (by rw [any_not]; rfl)
  clear HI
  rw [HM.out]
  obtain ⟨b, hb⟩ : ∃ b, b = r.any fun x => !(x == -1 || cellOk x) := ⟨_, rfl⟩
  rw [← hb] at HC ⊢
  obtain ⟨n, hn⟩ : ∃ n, n = r.length := ⟨_, rfl⟩
  rw [← hn] at HC ⊢
  clear hb HM hn
  by_cases h : n = C
  · subst h
    rw [show (n == n) = true from beq_self_eq_true n]
    go_enter Tryz.func55, Tryz.ntmps55
    go_wp2_with (go_at_call 82; refine HC.out.mono ?_; rintro e w' ⟨rfl, rfl⟩)
    go_ret
    exact ⟨rfl, rfl⟩
  · have hne : ((n : Int) == (C : Int)) = false := by simp; omega
    rw [show (n == C) = false from beq_eq_false_iff_ne.2 h]
    go_enter Tryz.func55, Tryz.ntmps55
    go_wp2
    go_ret
    exact ⟨rfl, rfl⟩
theorem maskOk1_any (u vc : Value) (row c : List Int) (q : Nat) (w : World) (hu : InRow w u row) (hc : InRow w vc c) (hq : w.cell? ⟨q, 0, none⟩ = some vc) :
    Calls Tryz.prog 54 #[u, .pointer (some ⟨q, 0, none⟩)] w fun e w' => e = .returned (.bool (!maskRowB c.length row)) ∧ Below w.heap.size w w' := by
  have HC := hide (maskRowOk_any u row c.length w hu)
  obtain ⟨b, hb⟩ : ∃ b, b = maskRowB c.length row := ⟨_, rfl⟩
  rw [← hb] at HC ⊢
  obtain ⟨au, cu, rfl, -, -⟩ := hu
  obtain ⟨ac, cc, rfl, hm, -⟩ := hc
  unfold maxLen at hm
  generalize c.length = C at *
  generalize row.length = R at *
  clear hb
  go_enter Tryz.func54, Tryz.ntmps54
  go_wp2_with (go_at_call 55; refine HC.out.mono ?_; rintro e w' ⟨rfl, rfl⟩)
  go_ret
  exact ⟨rfl, Below.refl _ _⟩
set_option maxHeartbeats 1000000 in
theorem implMaskOk_any (vk va vb : Value) (k : List (List Int)) (r c : List Int) (w : World) (hk : InMat w vk k) (ha : InRow w va r) (hb : InRow w vb c) :
    Calls Tryz.prog 31 #[vk, va, vb] w fun e w' => e = .returned (.bool (maskB k r c)) ∧ Below w.heap.size w w' := by
  have hbx := (Below.refl w.heap.size w).alloc (Nat.le_refl _) (.cells #[vb] 28)
  have HBX := hide hbx
  have HQ := hide (show (w.alloc (.cells #[vb] 28)).cell? ⟨w.heap.size, 0, none⟩ = some vb by simp [World.cell?_alloc_new])
  have HS := hide (implSumsOk_any va vb r c _ (inRow_below ha hbx) (inRow_below hb hbx))
  have HK := hide (inMat_below hk hbx); have HB := hide (inRow_below hb hbx)
  have HM : Hid (maskB k r c = (sumsOk r c && k.length == r.length && !k.any fun q => !maskRowB c.length q)) := hide (by rw [any_not]; rfl)
  have HCN := hide fun w' (h : Below (w.alloc (.cells #[vb] 28)).heap.size (w.alloc (.cells #[vb] 28)) w') => containsRows_any vk k 54 #[.pointer (some ⟨w.heap.size, 0, none⟩)] (fun _ => True) (fun q => !maskRowB c.length q) w' (enters_of Tryz.func54 (by kernel_rfl) rfl) (inMat_below HK.out h) (fun _ _ => trivial)
    (fun row u w2 _ h2 hu => maskOk1_any u vb row c w.heap.size w2 hu (inRow_below (inRow_below HB.out h) h2) (by rw [below_cell (h.trans (h2.mono h.size)) (by simp) HQ.out]))
  rw [HM.out]
  obtain ⟨b, hbb⟩ : ∃ b, b = k.any fun q => !maskRowB c.length q := ⟨_, rfl⟩
  rw [← hbb] at HCN ⊢
  obtain ⟨s, hs⟩ : ∃ s, s = sumsOk r c := ⟨_, rfl⟩
  rw [← hs] at HS ⊢
  obtain ⟨ak, ck, rfl, -, -⟩ := hk
  obtain ⟨aa, ca, rfl, -, -⟩ := ha
  obtain ⟨ab, cb, rfl, -, -⟩ := hb
  clear hbb hs hbx HM HK HB
  generalize c.length = C at *
  obtain ⟨R, hR⟩ : ∃ R, R = r.length := ⟨_, rfl⟩
  obtain ⟨K, hK⟩ : ∃ K, K = k.length := ⟨_, rfl⟩
  rw [← hR] at HS ⊢
  rw [← hK] at HCN ⊢
  clear hR hK
  cases s with
  | false =>
    go_enter Tryz.func31, Tryz.ntmps31
    go_wp2_with (go_at_call 52; refine HS.out.mono ?_; rintro e w1 ⟨rfl, b1⟩; have B1 := hide b1; clear b1)
    go_ret
    exact ⟨rfl, HBX.out.trans (B1.out.mono HBX.out.size)⟩
  | true =>
    by_cases h : K = R
    · subst h
      go_enter Tryz.func31, Tryz.ntmps31
      go_wp2_with (first | (go_at_call 52; refine HS.out.mono ?_; rintro e w1 ⟨rfl, b1⟩; have B1 := hide b1; clear b1) | (go_at_call 53; refine (HCN.out _ B1.out).mono ?_; rintro e w2 ⟨rfl, b2⟩; have B2 := hide b2; clear b2))
      go_ret
      exact ⟨ret_bool (by simp), HBX.out.trans ((B1.out.trans (B2.out.mono B1.out.size)).mono HBX.out.size)⟩
    · have hne : ((K : Int) == (R : Int)) = false := by simp; omega
      rw [show (K == R) = false from beq_eq_false_iff_ne.2 h]
      go_enter Tryz.func31, Tryz.ntmps31
      go_wp2_with (go_at_call 52; refine HS.out.mono ?_; rintro e w1 ⟨rfl, b1⟩; have B1 := hide b1; clear b1)
      go_ret
      exact ⟨rfl, HBX.out.trans (B1.out.mono HBX.out.size)⟩

set_option maxHeartbeats 1000000 in
theorem rowMeetsF_any (va vb : Value) (m l : List Int) (w : World) (ha : InRow w va m) (hb : InRow w vb l) :
    Calls Tryz.prog 89 #[va, vb, .func (.func 90) #[] #[]] w fun e w' => e = .returned (.bool (meetR m l)) ∧ w = w' := by
  obtain ⟨a, ca, rfl, hma, hpa⟩ := ha
  obtain ⟨b, cb, rfl, hmb, hpb⟩ := hb
  unfold maxLen at hma hmb
  by_cases hlen : m.length = l.length
  · by_cases h0 : m.length = 0
    · have hr : m = [] := List.eq_nil_of_length_eq_zero h0
      have hs : l = [] := List.eq_nil_of_length_eq_zero (by omega)
      subst hr; subst hs
      clear hpa hpb hma hmb hlen h0
      go_enter Tryz.func89, Tryz.ntmps89
      go_wp2
      go_loop [17] (fun i => i = .int .i64 0) (fun _ => 0)
      case atStart => rfl
      case round =>
        obtain rfl := hrel
        go_wp2
        go_ret
        exact ⟨rfl, rfl⟩
    · obtain ⟨ga, oa, rfl, hga, hca⟩ := hpa.resolve_left h0
      obtain ⟨gb, ob, rfl, hgb, hcb⟩ := hpb.resolve_left (by omega)
      have HA := hide hca; have HB := hide hcb; have HL := hide hlen
      obtain ⟨n, hn⟩ : ∃ n, n = m.length := ⟨_, rfl⟩
      have HN := hide hn
      have HM : Hid (l.length = n) := hide (by omega)
      rw [← hlen, ← hn]
      rw [← hn] at hma
      clear hpa hpb hca hcb h0 hmb hlen hn
      go_enter Tryz.func89, Tryz.ntmps89
      go_wp2
      go_loop [17] (fun i => ∃ k : Nat, k ≤ n ∧ i = .int .i64 k ∧ (∀ t, (h1 : t < m.length) → (h2 : t < l.length) → t < k → meetC m[t] l[t] = true)) (fun i => n - (intOf i).toNat)
      case atStart => exact ⟨0, Nat.zero_le _, rfl, fun t _ _ h => absurd h (Nat.not_lt_zero _)⟩
      case round =>
        obtain ⟨k, hk, rfl, hall⟩ := hrel
        have HH := hide hall
        clear hall
        by_cases hlt : k < n
        · have hkr : k < m.length := by rw [← HN.out]; exact hlt
          have hks : k < l.length := by rw [HM.out]; exact hlt
          have hxa := HA.out k hkr
          have hxb := HB.out k hks
          have HNO := hide (fun h => eqBy_no2 (p := meetC) k hkr hks h)
          have HST : Hid (meetC m[k] l[k] = true → ∀ t, (h1 : t < m.length) → (h2 : t < l.length) → t < k + 1 → meetC m[t] l[t] = true) := hide fun h t h1 h2 ht => by
            by_cases e : t = k
            · subst e; exact h
            · exact HH.out t h1 h2 (by omega)
          obtain ⟨x, hx⟩ : ∃ x, x = m[k] := ⟨_, rfl⟩
          obtain ⟨y, hy⟩ : ∃ y, y = l[k] := ⟨_, rfl⟩
          rw [← hx] at hxa HNO HST
          rw [← hy] at hxb HNO HST
          have HCALL := hide fun w' => cellMeets_any x y w'
          obtain ⟨q, hq⟩ : ∃ q, q = meetC x y := ⟨_, rfl⟩
          rw [← hq] at HCALL HNO HST
          clear hq hx hy
          cases q with
          | true =>
            have HS2 := hide (HST.out rfl)
            clear HNO HST
            go_wp2_with (go_at_call 90; refine (HCALL.out _).mono ?_; rintro e w9 ⟨rfl, rfl⟩)
            go_round
            case rel => exact ⟨k + 1, by omega, by go_num, HS2.out⟩
            case measure => simp [intOf]; omega
          | false =>
            have HF := hide (HNO.out rfl)
            clear HNO HST
            go_wp2_with (go_at_call 90; refine (HCALL.out _).mono ?_; rintro e w9 ⟨rfl, rfl⟩)
            go_ret
            exact ⟨ret_bool HF.out.symm, rfl⟩
        · have HY := hide (eqBy_yes (p := meetC) HL.out fun t h1 h2 => HH.out t h1 h2 (by have := HN.out; omega))
          go_wp2
          go_ret
          exact ⟨ret_bool HY.out.symm, rfl⟩
  · have HF := hide (eqBy_no1 (p := meetC) hlen)
    obtain ⟨n, hn⟩ : ∃ n, n = m.length := ⟨_, rfl⟩
    obtain ⟨k, hk⟩ : ∃ k, k = l.length := ⟨_, rfl⟩
    rw [← hn, ← hk] at hlen ⊢
    rw [← hn] at hma
    rw [← hk] at hmb
    have hne2 : ((n : Int) != (k : Int)) = true := by simp; omega
    clear hpa hpb hn hk hlen
    go_enter Tryz.func89, Tryz.ntmps89
    go_wp2
    go_ret
    exact ⟨ret_bool HF.out.symm, rfl⟩
theorem rowMeets_any (va vb : Value) (m l : List Int) (w : World) (ha : InRow w va m) (hb : InRow w vb l) :
    Calls Tryz.prog 61 #[va, vb] w fun e w' => e = .returned (.bool (meetR m l)) ∧ w = w' := by
  have HF := hide (rowMeetsF_any va vb m l w ha hb)
  obtain ⟨aa, ca, rfl, -, -⟩ := ha
  obtain ⟨ab, cb, rfl, -, -⟩ := hb
  generalize m.length = M at *
  generalize l.length = L at *
  go_enter Tryz.func61, Tryz.ntmps61
  go_wp2_with (go_at_call 89; refine HF.out.mono ?_; rintro e w' ⟨rfl, rfl⟩)
  go_ret
  exact ⟨rfl, rfl⟩
end Go.Proofs.YtbogeghoekmbhaaGreat
/-
  Masks, of the model: l08Size, MaskOk, MeetsMask; MeetsMask of the program.
-/
namespace Go.Proofs.YtbogeghoekmbhaaGreat
open Go.RowKit Go.Shelf

def sizeRow (C : Nat) (lo hi : Int) (q : List Int) : Bool := q.length == C && q.all fun x => decide (lo ≤ x ∧ x ≤ hi)
def sizeB (k : List (List Int)) (R C : Nat) (lo hi : Int) : Bool := k.length == R && k.all (sizeRow C lo hi)
theorem all_no {α : Type} {p : α → Bool} {l : List α} (i : Nat) (hi : i < l.length) (h : p l[i] = false) : l.all p = false := by
  rw [List.all_eq_false]
  exact ⟨l[i], List.getElem_mem hi, by simp [h]⟩
theorem all_yes {α : Type} {p : α → Bool} {l : List α} (h : ∀ i, (hi : i < l.length) → p l[i] = true) : l.all p = true := by
  rw [List.all_eq_true]
  intro x hx
  obtain ⟨i, hi, rfl⟩ := List.getElem_of_mem hx
  exact h i hi

set_option maxRecDepth 100000 in
set_option maxHeartbeats 1000000 in
theorem l08Size_any (v : Value) (m : List (List Int)) (R C : Nat) (lo hi : Int) (w : World) (hR : R ≤ 5) (hC : 1 ≤ C ∧ C ≤ 5) (hin : InMat w v m) :
    Calls Tryz.prog 49 #[v, .int .i64 R, .int .i64 C, .int .i64 lo, .int .i64 hi] w fun e w' => e = .returned (.bool (sizeB m R C lo hi)) ∧ w = w' := by
  obtain ⟨a, c, rfl, hm, hp⟩ := hin
  unfold maxLen at hm
  by_cases hlen : m.length = R
  · by_cases h0 : m.length = 0
    · have hr : m = [] := List.eq_nil_of_length_eq_zero h0
      subst hr
      obtain rfl : R = 0 := by simpa using hlen.symm
      clear hp h0 hm hlen hR
      go_enter Tryz.func49, Tryz.ntmps49
      go_wp2
      go_loop [21] (fun i => i = .int .i64 0) (fun _ => 0)
      case atStart => rfl
      case round =>
        obtain rfl := hrel
        go_wp2
        go_ret
        exact ⟨rfl, rfl⟩
    · obtain ⟨g, o, rfl, hg, hcell⟩ := hp.resolve_left h0
      have HC := hide hcell
      have HL := hide hlen
      have HSZ : Hid (sizeB m R C lo hi = m.all (sizeRow C lo hi)) := hide (by rw [sizeB, beq_iff_eq.2 hlen, Bool.true_and])
      rw [HSZ.out]
      rw [hlen] at hm ⊢
      clear hp hcell hlen h0
      go_enter Tryz.func49, Tryz.ntmps49
      go_wp2
      go_loop [21] (fun i => ∃ k : Nat, k ≤ R ∧ i = .int .i64 k ∧ ∀ t, (h : t < m.length) → t < k → sizeRow C lo hi m[t] = true) (fun i => R - (intOf i).toNat)
      case atStart => exact ⟨0, Nat.zero_le _, rfl, fun t _ h => absurd h (Nat.not_lt_zero _)⟩
      case round =>
        obtain ⟨k, hk, rfl, hall⟩ := hrel
        have HA := hide hall
        clear hall
        by_cases hlt : k < R
        · have hk' : k < m.length := by rw [HL.out]; exact hlt
          obtain ⟨u, hx, hr⟩ := HC.out k hk'
          obtain ⟨a', c', rfl, hm', hp'⟩ := hr
          unfold maxLen at hm'
          have HNO := hide (fun h => all_no (p := sizeRow C lo hi) k hk' h)
          obtain ⟨row, hrow⟩ : ∃ row, row = m[k] := ⟨_, rfl⟩
          have HROW := hide hrow
          rw [← hrow] at hx hm' hp' HNO
          by_cases hln : row.length = C
          · obtain ⟨g', o', rfl, hg', hcell'⟩ := hp'.resolve_left (by omega)
            have HC' := hide hcell'
            have HLN := hide hln
            rw [hln] at hx hm'
            clear hp' hcell' hrow hln
            go_wp2
            go_loop [31] (fun i => ∃ j : Nat, j ≤ C ∧ i = .int .i64 j ∧ ∀ t, (h : t < row.length) → t < j → (decide (lo ≤ row[t] ∧ row[t] ≤ hi)) = true) (fun i => C - (intOf i).toNat)
            case atStart => exact ⟨0, Nat.zero_le _, rfl, fun t _ h => absurd h (Nat.not_lt_zero _)⟩
            case round =>
              obtain ⟨j, hj, rfl, hall⟩ := hrel
              have HB := hide hall
              clear hall
              by_cases hlj : j < C
              · have hj' : j < row.length := by rw [HLN.out]; exact hlj
                have hy := HC'.out j hj'
                have HSB := hide (show decide (lo ≤ row[j] ∧ row[j] ≤ hi) = true → ∀ t, (h : t < row.length) → t < j + 1 → decide (lo ≤ row[t] ∧ row[t] ≤ hi) = true from fun hc t ht h => by
                  by_cases e : t = j
                  · subst e; exact hc
                  · exact HB.out t ht (by omega))
                have HNB := hide (show decide (lo ≤ row[j] ∧ row[j] ≤ hi) = false → m.all (sizeRow C lo hi) = false from fun h => HNO.out (by
                  rw [sizeRow, all_no (p := fun x => decide (lo ≤ x ∧ x ≤ hi)) j hj' h, Bool.and_false]))
                obtain ⟨y, hyy⟩ : ∃ y, y = row[j] := ⟨_, rfl⟩
                rw [← hyy] at hy HSB HNB
                have HCALL := hide fun w' => l01In_any y lo hi w'
                obtain ⟨q, hq⟩ : ∃ q, q = decide (lo ≤ y ∧ y ≤ hi) := ⟨_, rfl⟩
                rw [← hq] at HCALL HSB HNB
                clear hyy hq
                cases q with
                | true =>
                  have HS2 := hide (HSB.out rfl)
                  clear HNB HSB
                  go_wp2_with (go_at_call 35; refine (HCALL.out _).mono ?_; rintro e w9 ⟨rfl, rfl⟩)
                  go_round
                  case rel => exact ⟨j + 1, by omega, by go_num, HS2.out⟩
                  case measure => simp [intOf]; omega
                | false =>
                  have HF := hide (HNB.out rfl)
                  clear HSB HNB
                  go_wp2_with (go_at_call 35; refine (HCALL.out _).mono ?_; rintro e w9 ⟨rfl, rfl⟩)
                  go_ret
                  exact ⟨ret_bool HF.out.symm, rfl⟩
              · have HST : Hid (∀ t, (h : t < m.length) → t < k + 1 → sizeRow C lo hi m[t] = true) := hide fun t h1 ht => by
                  by_cases e : t = k
                  · subst e
                    rw [← HROW.out, sizeRow, beq_iff_eq.2 HLN.out, Bool.true_and]
                    exact all_yes fun i hi => HB.out i hi (by have := HLN.out; omega)
                  · exact HA.out t h1 (by omega)
                go_wp2
                go_round
                case rel => exact ⟨k + 1, by omega, by go_num, HST.out⟩
                case measure => simp [intOf]; omega
          · have HF := hide (HNO.out (by rw [sizeRow, beq_eq_false_iff_ne.2 hln, Bool.false_and]))
            obtain ⟨n, hn⟩ : ∃ n, n = row.length := ⟨_, rfl⟩
            rw [← hn] at hx hm' hln
            have hne : ((n : Int) != (C : Int)) = true := by simp; omega
            clear hn hp' hrow
            go_wp2
            go_ret
            exact ⟨ret_bool HF.out.symm, rfl⟩
        · have HY := hide (all_yes (p := sizeRow C lo hi) fun t ht => HA.out t ht (by have := HL.out; omega))
          go_wp2
          go_ret
          exact ⟨ret_bool HY.out.symm, rfl⟩
  · have HF : Hid (sizeB m R C lo hi = false) := hide (by rw [sizeB, beq_eq_false_iff_ne.2 hlen, Bool.false_and])
    rw [HF.out]
    obtain ⟨n, hn⟩ : ∃ n, n = m.length := ⟨_, rfl⟩
    rw [← hn] at hlen hm ⊢
    have hne : ((n : Int) != (R : Int)) = true := by simp; omega
    clear hn hp hlen
    go_enter Tryz.func49, Tryz.ntmps49
    go_wp2
    go_ret
    exact ⟨rfl, rfl⟩
theorem cell_range (x : Int) : (x == -1 || cellOk x) = decide ((-1 : Int) ≤ x ∧ x ≤ 1) := by
  unfold cellOk
  by_cases h : -1 ≤ x ∧ x ≤ 1
  · rw [decide_eq_true h]
    rcases (show x = -1 ∨ x = 0 ∨ x = 1 by omega) with rfl | rfl | rfl <;> rfl
  · rw [decide_eq_false h, beq_eq_false_iff_ne.2 (by omega), beq_eq_false_iff_ne.2 (by omega), beq_eq_false_iff_ne.2 (by omega)]; rfl
theorem maskB_size (k : List (List Int)) (r c : List Int) : maskB k r c = (sumsOk r c && sizeB k r.length c.length (-1) 1) := by
  have e : maskRowB c.length = sizeRow c.length (-1) 1 := by
    funext q
    unfold maskRowB sizeRow
    congr 2
    funext x; exact cell_range x
  rw [maskB, sizeB, e, Bool.and_assoc]
set_option maxHeartbeats 400000 in
theorem specMaskOk_any (vk va vb : Value) (k : List (List Int)) (r c : List Int) (w : World) (hk : InMat w vk k) (ha : InRow w va r) (hb : InRow w vb c) :
    Calls Tryz.prog 28 #[vk, va, vb] w fun e w' => e = .returned (.bool (maskB k r c)) ∧ Below w.heap.size w w' := by
  have HS := hide (specSumsOk_any va vb r c w ha hb)
  rw [maskB_size]
  cases h : sumsOk r c with
  | false =>
    rw [h] at HS
    obtain ⟨ak, ck, rfl, -, -⟩ := hk
    obtain ⟨aa, ca, rfl, -, -⟩ := ha
    obtain ⟨ab, cb, rfl, -, -⟩ := hb
    generalize r.length = R at *
    generalize c.length = C at *
    generalize k.length = K at *
    clear h
    go_enter Tryz.func28, Tryz.ntmps28
    go_wp2_with (go_at_call 48; refine HS.out.mono ?_; rintro e w1 ⟨rfl, b1⟩; have B1 := hide b1; clear b1)
    go_ret
    exact ⟨rfl, B1.out⟩
  | true =>
    rw [h] at HS
    obtain ⟨hr5, hc5, -⟩ := sumsOk_yes h
    have HZ := hide fun w' (hw : Below w.heap.size w w') => l08Size_any vk k r.length c.length (-1) 1 w' hr5.2 hc5 (inMat_below hk hw)
    obtain ⟨q, hq⟩ : ∃ q, q = sizeB k r.length c.length (-1) 1 := ⟨_, rfl⟩
    rw [← hq] at HZ ⊢
    obtain ⟨ak, ck, rfl, -, -⟩ := hk
    obtain ⟨aa, ca, rfl, -, -⟩ := ha
    obtain ⟨ab, cb, rfl, -, -⟩ := hb
    clear hq h
    generalize r.length = R at *
    generalize c.length = C at *
    generalize k.length = K at *
    go_enter Tryz.func28, Tryz.ntmps28
    go_wp2_with (first | (go_at_call 48; refine HS.out.mono ?_; rintro e w1 ⟨rfl, b1⟩; have B1 := hide b1; clear b1) | (go_at_call 49; refine (HZ.out _ B1.out).mono ?_; rintro e w2 ⟨rfl, rfl⟩))
    go_ret
    exact ⟨rfl, B1.out⟩

/-- Where all cells are 0 or 1, what is met has elements in the range of an integer. -/
theorem meets_size (m k : List (List Int)) (hm : okB m = true) (h : meetM m k = true) : sizeB k m.length (widthM m) (-9223372036854775807) 9223372036854775807 = true := by
  obtain ⟨h1, h2, h3⟩ := okB_parts hm
  have hl := eqBy_len h
  rw [sizeB, beq_iff_eq.2 hl.symm, Bool.true_and]
  refine all_yes fun i hi => ?_
  have hr : meetR m[i] k[i] = true := eqBy_at i (by omega) hi h
  have hrl := eqBy_len hr
  obtain ⟨g1, g2⟩ := h3 i (by omega)
  rw [sizeRow, beq_iff_eq.2 (by omega), Bool.true_and]
  refine all_yes fun j hj => ?_
  have hc : meetC m[i][j] k[i][j] = true := eqBy_at j (by omega) hj hr
  have := g2 j (by omega)
  unfold meetC at hc
  simp only [Bool.or_eq_true, beq_iff_eq] at hc
  exact decide_eq_true (by omega)
where
  okB_parts {m : List (List Int)} (h : okB m = true) : (1 ≤ m.length ∧ m.length ≤ 5) ∧ (1 ≤ widthM m ∧ widthM m ≤ 5) ∧ ∀ i, (hi : i < m.length) → m[i].length = widthM m ∧ ∀ j, (hj : j < m[i].length) → m[i][j] = 0 ∨ m[i][j] = 1 := by
    unfold okB at h
    simp only [Bool.and_eq_true, decide_eq_true_eq] at h
    refine ⟨h.1.1, h.1.2, fun i hi => ?_⟩
    have := List.all_eq_true.1 h.2 _ (List.getElem_mem hi)
    unfold rowOk at this
    simp only [Bool.and_eq_true, beq_iff_eq] at this
    refine ⟨this.1, fun j hj => ?_⟩
    have := List.all_eq_true.1 this.2 _ (List.getElem_mem hj)
    unfold cellOk at this
    simpa using this
set_option maxRecDepth 100000 in
set_option maxHeartbeats 1000000 in
theorem specMeets_any (va vb : Value) (m l : List (List Int)) (w : World) (ha : InMat w va m) (hb : InMat w vb l) :
    Calls Tryz.prog 30 #[va, vb] w fun e w' => e = .returned (.bool (meetsB m l)) ∧ w = w' := by
  have HOK := hide (specImageOk_any va m w ha)
  cases h : okB m with
  | false =>
    rw [h] at HOK
    rw [meetsB, h]
    obtain ⟨a, ca, rfl, -, -⟩ := ha
    obtain ⟨b, cb, rfl, -, -⟩ := hb
    generalize m.length = M at *
    generalize l.length = L at *
    clear h
    go_enter Tryz.func30, Tryz.ntmps30
    go_wp2_with (go_at_call 21; refine HOK.out.mono ?_; rintro e w1 ⟨rfl, rfl⟩)
    go_ret
    exact ⟨rfl, rfl⟩
  | true =>
    rw [h] at HOK
    obtain ⟨h1, h2, h3⟩ := meets_size.okB_parts h
    have HMS := hide (meets_size m l h)
    have HSZ := hide (l08Size_any vb l m.length (widthM m) (-9223372036854775807) 9223372036854775807 w h1.2 h2 hb)
    have HMB : Hid (meetsB m l = meetM m l) := hide (by rw [meetsB, h, Bool.true_and])
    rw [HMB.out]
    obtain ⟨a, ca, rfl, hma, hpa⟩ := ha
    obtain ⟨b, cb, rfl, hmb, hpb⟩ := hb
    unfold maxLen at hma hmb
    obtain ⟨ga, oa, rfl, hga, hca⟩ := hpa.resolve_left (by omega)
    have HA := hide hca
    obtain ⟨u0, hx0, hr0⟩ := hca 0 (by omega)
    rw [Nat.add_zero] at hx0
    obtain ⟨a0, c0, rfl, -, -⟩ := hr0
    rw [show m[0].length = widthM m from (h3 0 (by omega)).1] at hx0
    obtain ⟨W, hW⟩ : ∃ W, W = widthM m := ⟨_, rfl⟩
    obtain ⟨R, hR⟩ : ∃ R, R = m.length := ⟨_, rfl⟩
    have HR := hide hR; have HW := hide hW; have H3 := hide h3
    rw [← hW] at hx0 h2 HSZ HMS H3
    rw [← hR] at h1 hma HOK HSZ HMS
    rw [← hR]
    obtain ⟨q, hq⟩ : ∃ q, q = sizeB l R W (-9223372036854775807) 9223372036854775807 := ⟨_, rfl⟩
    have HQ := hide hq
    rw [← hq] at HSZ HMS
    have hR0 : 0 < R := by omega
    obtain ⟨h1a, h1b⟩ := h1
    obtain ⟨h2a, h2b⟩ := h2
    cases q with
    | false =>
      have HF : Hid (meetM m l = false) := hide (by
        cases e : meetM m l with
        | false => rfl
        | true => have := HMS.out e; cases this)
      rw [HF.out]
      clear h hq hR hW h3 hpa hpb hca HQ HMS
      generalize l.length = L at *
      go_enter Tryz.func30, Tryz.ntmps30
      go_wp2_with (first | (go_at_call 21; refine HOK.out.mono ?_; rintro e w1 ⟨rfl, rfl⟩) | (go_at_call 49; refine HSZ.out.mono ?_; rintro e w1 ⟨rfl, rfl⟩))
      go_ret
      exact ⟨rfl, rfl⟩
    | true =>
      have hsz := hq.symm
      rw [sizeB, Bool.and_eq_true, beq_iff_eq] at hsz
      have hlr : ∀ i, (hi : i < l.length) → l[i].length = W := fun i hi => by
        have := List.all_eq_true.1 hsz.2 _ (List.getElem_mem hi)
        rw [sizeRow, Bool.and_eq_true, beq_iff_eq] at this
        exact this.1
      obtain ⟨gb, ob, rfl, hgb, hcb⟩ := hpb.resolve_left (by omega)
      have HB := hide hcb; have HLR := hide hlr; have HLL := hide hsz.1
      rw [hsz.1] at hmb HSZ ⊢
      clear h hq hR hW h3 hpa hpb hca hcb hsz hlr HMS HQ
      go_enter Tryz.func30, Tryz.ntmps30
      go_wp2_with (first | (go_at_call 21; refine HOK.out.mono ?_; rintro e w1 ⟨rfl, rfl⟩) | (go_at_call 49; refine HSZ.out.mono ?_; rintro e w1 ⟨rfl, rfl⟩))
      clear hx0
      go_loop [25] (fun i => ∃ k : Nat, k ≤ R ∧ i = .int .i64 k ∧ ∀ t, (g1 : t < m.length) → (g2 : t < l.length) → t < k → meetR m[t] l[t] = true) (fun i => R - (intOf i).toNat)
      case atStart => exact ⟨0, Nat.zero_le _, rfl, fun t _ _ h => absurd h (Nat.not_lt_zero _)⟩
      case round =>
        obtain ⟨k, hk, rfl, hall⟩ := hrel
        have HH := hide hall
        clear hall
        by_cases hlt : k < R
        · have hk1 : k < m.length := by rw [← HR.out]; exact hlt
          have hk2 : k < l.length := by rw [HLL.out]; exact hlt
          obtain ⟨ua, hxa, hra⟩ := HA.out k hk1
          obtain ⟨a1, c1, rfl, -, hp1⟩ := hra
          have hl1 := (H3.out k hk1).1
          obtain ⟨g1, o1, rfl, hg1, hc1⟩ := hp1.resolve_left (by omega)
          have HC1 := hide hc1
          obtain ⟨ub, hxb, hrb⟩ := HB.out k hk2
          obtain ⟨a2, c2, rfl, -, hp2⟩ := hrb
          have hl2 := HLR.out k hk2
          obtain ⟨g2, o2, rfl, hg2, hc2⟩ := hp2.resolve_left (by omega)
          have HC2 := hide hc2
          have HNO := hide (fun h => eqBy_no2 (p := meetR) k hk1 hk2 h)
          obtain ⟨p, hpp⟩ : ∃ p, p = m[k] := ⟨_, rfl⟩
          obtain ⟨s, hss⟩ : ∃ s, s = l[k] := ⟨_, rfl⟩
          have HP := hide hpp; have HS := hide hss
          rw [← hpp] at hxa hl1 HC1 HNO
          rw [← hss] at hxb hl2 HC2 HNO
          have HL1 := hide hl1; have HL2 := hide hl2
          rw [hl1] at hxa
          rw [hl2] at hxb
          clear hp1 hp2 hc1 hc2 hpp hss hl1 hl2
          go_wp2
          go_loop [32] (fun i => ∃ j : Nat, j ≤ W ∧ i = .int .i64 j ∧ ∀ t, (g1 : t < p.length) → (g2 : t < s.length) → t < j → meetC p[t] s[t] = true) (fun i => W - (intOf i).toNat)
          case atStart => exact ⟨0, Nat.zero_le _, rfl, fun t _ _ h => absurd h (Nat.not_lt_zero _)⟩
          case round =>
            obtain ⟨j, hj, rfl, hall⟩ := hrel
            have HI := hide hall
            clear hall
            by_cases hlj : j < W
            · have hj1 : j < p.length := by rw [HL1.out]; exact hlj
              have hj2 : j < s.length := by rw [HL2.out]; exact hlj
              have hy1 := HC1.out j hj1
              have hy2 := HC2.out j hj2
              have HSB := hide (show meetC p[j] s[j] = true → ∀ t, (g1 : t < p.length) → (g2 : t < s.length) → t < j + 1 → meetC p[t] s[t] = true from fun hc t g1 g2 h => by
                by_cases e : t = j
                · subst e; exact hc
                · exact HI.out t g1 g2 (by omega))
              have HNB := hide (show meetC p[j] s[j] = false → meetM m l = false from fun h => HNO.out (eqBy_no2 (p := meetC) j hj1 hj2 h))
              obtain ⟨x, hx⟩ : ∃ x, x = p[j] := ⟨_, rfl⟩
              obtain ⟨y, hy⟩ : ∃ y, y = s[j] := ⟨_, rfl⟩
              rw [← hx] at hy1 HSB HNB
              rw [← hy] at hy2 HSB HNB
              clear hx hy
              by_cases e1 : y = -1
              · subst e1
                have HS2 := hide (HSB.out rfl)
                clear HNB HSB
                go_wp2
                go_round
                case rel => exact ⟨j + 1, by omega, by go_num, HS2.out⟩
                case measure => simp [intOf]; omega
              · have b1 : (y != -1) = true := by simp [e1]
                by_cases e2 : y = x
                · subst e2
                  have HS2 := hide (HSB.out (by simp [meetC]))
                  clear HNB HSB e1
                  go_wp2
                  go_round
                  case rel => exact ⟨j + 1, by omega, by go_num, HS2.out⟩
                  case measure => simp [intOf]; omega
                · have b2 : (y != x) = true := by simp [e2]
                  have HF := hide (HNB.out (by unfold meetC; rw [beq_eq_false_iff_ne.2 e1, beq_eq_false_iff_ne.2 e2]; rfl))
                  clear HSB HNB e1 e2
                  go_wp2
                  go_ret
                  exact ⟨ret_bool HF.out.symm, rfl⟩
            · have HST : Hid (∀ t, (g1 : t < m.length) → (g2 : t < l.length) → t < k + 1 → meetR m[t] l[t] = true) := hide fun t h1 h2 ht => by
                by_cases e : t = k
                · subst e
                  rw [← HP.out, ← HS.out]
                  exact eqBy_yes (by rw [HL1.out, HL2.out]) fun i g1 g2 => HI.out i g1 g2 (by have := HL1.out; omega)
                · exact HH.out t h1 h2 (by omega)
              go_wp2
              go_round
              case rel => exact ⟨k + 1, by omega, by go_num, HST.out⟩
              case measure => simp [intOf]; omega
        · have HY := hide (eqBy_yes (p := meetR) (by rw [← HR.out, HLL.out]) fun t g1 g2 => HH.out t g1 g2 (by have := HR.out; omega))
          go_wp2
          go_ret
          exact ⟨ret_bool HY.out.symm, rfl⟩

end Go.Proofs.YtbogeghoekmbhaaGreat
/-
  A range over a function whose iterator keeps memory of its own between the rounds and hands memory on: what either side may change is a set of blocks.
-/
namespace Go.Proofs.YtbogeghoekmbhaaGreat
open Go.RowKit Go.Shelf

section
variable {P : Program}

/-- No block has turned but those of A. -/
structure ItOnly (A : Nat → Prop) (W W' : World) : Prop where
  os : W'.os = W.os
  tape : W'.tape = W.tape
  output : W'.output = W.output
  size : W.heap.size ≤ W'.heap.size
  block : ∀ k, k < W.heap.size → ¬ A k → W'.heap[k]? = W.heap[k]?
/-- .. and what is the caller's now was so before, or is new. -/
def ItStep (A A' : Nat → Prop) (W W' : World) : Prop := ItOnly A W W' ∧ ∀ k, A' k → A k ∨ W.heap.size ≤ k
theorem itStep_put {A B : Nat → Prop} {U W : World} {k : Nat} (h : ItStep A B U W) (hk : U.heap.size ≤ k) (o : Obj) : ItStep A B U (W.putObj k o) :=
  ⟨⟨h.1.os, h.1.tape, h.1.output, by simpa using h.1.size, fun i hi hn => by rw [World.putObj_heap_other (by omega)]; exact h.1.block i hi hn⟩, h.2⟩
/-- .. or has been handed over. -/
def ItGive (A A' G : Nat → Prop) (W W' : World) : Prop := ItOnly A W W' ∧ ∀ k, A' k → A k ∨ G k ∨ W.heap.size ≤ k
theorem itStep_refl (A : Nat → Prop) (W : World) : ItStep A A W W := ⟨⟨rfl, rfl, rfl, Nat.le_refl _, fun _ _ _ => rfl⟩, fun _ h => .inl h⟩
theorem itStep_trans {A B C : Nat → Prop} {U V W : World} (h : ItStep A B U V) (k : ItStep B C V W) : ItStep A C U W := by
  refine ⟨⟨k.1.os.trans h.1.os, k.1.tape.trans h.1.tape, k.1.output.trans h.1.output, Nat.le_trans h.1.size k.1.size, fun i hi hn => ?_⟩, fun i hi => ?_⟩
  · rw [k.1.block i (Nat.lt_of_lt_of_le hi h.1.size) (fun hb => (h.2 i hb).elim hn (fun h2 => by omega)), h.1.block i hi hn]
  · rcases k.2 i hi with h2 | h2
    · exact h.2 i h2
    · exact .inr (Nat.le_trans h.1.size h2)
theorem itGive_trans {A B C G : Nat → Prop} {U V W : World} (h : ItStep A B U V) (k : ItGive B C G V W) (hG : ∀ i, G i → U.heap.size ≤ i) : ItStep A C U W := by
  refine ⟨⟨k.1.os.trans h.1.os, k.1.tape.trans h.1.tape, k.1.output.trans h.1.output, Nat.le_trans h.1.size k.1.size, fun i hi hn => ?_⟩, fun i hi => ?_⟩
  · rw [k.1.block i (Nat.lt_of_lt_of_le hi h.1.size) (fun hb => (h.2 i hb).elim hn (fun h2 => by omega)), h.1.block i hi hn]
  · rcases k.2 i hi with h2 | h2 | h2
    · exact h.2 i h2
    · exact .inr (hG i h2)
    · exact .inr (Nat.le_trans h.1.size h2)
theorem itStep_below {A : Nat → Prop} {W W' : World} (h : Below W.heap.size W W') : ItStep A A W W' := ⟨⟨h.os, h.tape, h.output, h.size, fun k hk _ => h.block k hk⟩, fun _ h => .inl h⟩
/-- J speaks of the caller's blocks and of what lay below B alone. -/
def AbidF {β : Type} (B : Nat) (J : β → (Nat → Prop) → World → Prop) : Prop :=
  ∀ s A W W', J s A W → W'.os = W.os → W'.tape = W.tape → W'.output = W.output → W.heap.size ≤ W'.heap.size → (∀ k, k < W.heap.size → (k < B ∨ A k) → W'.heap[k]? = W.heap[k]?) → J s A W'
theorem abidF_mono {β : Type} {B B' : Nat} {J : β → (Nat → Prop) → World → Prop} (h : AbidF B J) (hB : B ≤ B') : AbidF B' J :=
  fun s A W W' h1 h2 h3 h4 h5 h6 => h s A W W' h1 h2 h3 h4 h5 fun k hk hc => h6 k hk (hc.imp (fun x => by omega) id)
theorem abidF_below {β : Type} {B : Nat} {J : β → (Nat → Prop) → World → Prop} (h : AbidF B J) {s : β} {A : Nat → Prop} {W W' : World} (hj : J s A W) (hb : Below W.heap.size W W') : J s A W' :=
  h s A W W' hj hb.os hb.tape hb.output hb.size fun k hk _ => hb.block k hk
theorem abidF_put {β : Type} {B : Nat} {J : β → (Nat → Prop) → World → Prop} (h : AbidF B J) {s : β} {A : Nat → Prop} {W : World} {l : Nat} (o : Obj) (hj : J s A W) (hB : B ≤ l) (hA : ¬ A l) : J s A (W.putObj l o) :=
  h s A W _ hj rfl rfl rfl (by simp) fun k hk hc => World.putObj_heap_other (fun e => by subst e; rcases hc with hc | hc; omega; exact hA hc)

theorem yieldAt_any {m m' : Nat} {l : Nat} {args : Array Value} {W : World} {R : Ending → World → Prop} (h : YieldAt Fence.wide m P l args W R) : YieldAt Fence.wide m' P l args W R := by
  obtain ⟨fn, tmps, assign, body, hy, hR⟩ := h
  exact ⟨fn, tmps, assign, body, hy, hR.1, fun c cs _ => hR.2 c cs (room_wide _)⟩

/-- An iterator's value hands on the elements of L, one by one, each with blocks of its own (G, from lo on). -/
def EachC {M : Type} (P : Program) (gf : Nat) (lb : Array Value) (L : List M) (Val : Value → M → Nat → (Nat → Prop) → World → Prop) (W : World) (A : Nat → Prop) : Prop :=
  ∀ (l : Nat) (J Jx : List M → (Nat → Prop) → World → Prop), AbidF W.heap.size J → AbidF W.heap.size Jx → (∀ pre A1 W1, J pre A1 W1 → ∀ k, A1 k → k < W1.heap.size) →
    (∀ pre A1 m v lo G W1, J pre A1 W1 → (pre ++ [m]) <+: L → ItStep A A1 W W1 → Val v m lo G W1 → W.heap.size ≤ lo → lo ≤ W1.heap.size → (∀ k, A1 k → k < lo) → (∀ k, G k → lo ≤ k ∧ k < W1.heap.size) → YieldAt Fence.wide 0 P l #[v] W1 fun e W2 =>
      (e = .returned (.bool true) ∧ ∃ A2, J (pre ++ [m]) A2 W2 ∧ ItGive A1 A2 G W1 W2) ∨
      (e = .returned (.bool false) ∧ ∃ A2, Jx (pre ++ [m]) A2 W2 ∧ (W1.heap.size ≤ W2.heap.size ∧ (∀ k, W.heap.size ≤ k → k < W1.heap.size → ¬ A1 k → W2.heap[k]? = W1.heap[k]?) ∧ ∀ k, A2 k → A1 k ∨ G k ∨ W1.heap.size ≤ k))) →
    J [] A W →
    Calls P gf (#[.func (.yield l) #[] #[]] ++ lb) W fun e W2 => (∃ v, e = .returned v) ∧ ∃ A2, (J L A2 W2 ∧ ItStep A A2 W W2) ∨ ∃ pre, pre <+: L ∧ Jx pre A2 W2

/-- How the body of a round may be left. -/
def eachPost {M : Type} (B : Nat) (I : List M → (Nat → Prop) → World → Prop) (Ix : Code → List M → (Nat → Prop) → World → Prop) (xs : List M) (A G : Nat → Prop) (W : World) : Exit → Act → World → Prop
  | .normal, _, W' => ∃ A', I xs A' W' ∧ ItGive A A' G W W'
  | .ret, _, W' => ∃ A', Ix .ret xs A' W' ∧ (W.heap.size ≤ W'.heap.size ∧ (∀ k, B ≤ k → k < W.heap.size → ¬ A k → W'.heap[k]? = W.heap[k]?) ∧ ∀ k, A' k → A k ∨ G k ∨ W.heap.size ≤ k)
  | .exit id, _, W' => ∃ A', Ix (.exit id) xs A' W' ∧ (W.heap.size ≤ W'.heap.size ∧ (∀ k, B ≤ k → k < W.heap.size → ¬ A k → W'.heap[k]? = W.heap[k]?) ∧ ∀ k, A' k → A k ∨ G k ∨ W.heap.size ≤ k)
  | _, _, _ => False

set_option maxHeartbeats 1000000 in
theorem wp_rangeEach {M : Type} {g : Operand} {ps : Array Tmp} {assign body : Code} {Q : Exit → Act → World → Prop} {a : Act} {w : World} {n gf : Nat} {lb : Array Value}
    (hg : a.eval g = .func (.func gf) #[] lb) (eg : ∀ args w, (callFunc gf args).run P w = .ok (.enter gf args) w)
    {L : List M} {Val : Value → M → Nat → (Nat → Prop) → World → Prop} (hVal : ∀ v m lo G W W', Val v m lo G W → W.heap.size ≤ W'.heap.size → (∀ k, G k → W'.heap[k]? = W.heap[k]?) → Val v m lo G W')
    (A0 : Nat → Prop) (hA0 : ∀ k, A0 k → k < w.heap.size) (hseq : ∀ W1 : World, Below w.heap.size w W1 → W1.heap.size = w.heap.size + 2 → EachC P gf lb L Val W1 A0) (hps : ps.size = 1)
    (I : List M → (Nat → Prop) → World → Prop) (Ix : Code → List M → (Nat → Prop) → World → Prop) (hI : AbidF w.heap.size I) (hIx : ∀ c, AbidF w.heap.size (Ix c)) (hIA : ∀ pre A1 W1, I pre A1 W1 → ∀ k, A1 k → k < W1.heap.size) (h0 : I [] A0 w) (a₁ : Value → Act)
    (hassign : ∀ (l : Nat) (v : Value) (m : M) (lo : Nat) (G : Nat → Prop) (W : World) (K : Act → World → Prop), Val v m lo G W → K (a₁ v) W → assign.wpIn (Fence.wide.inRound l) n P (Exit.then K (fun _ _ _ => False)) { tmps := (ps.zip #[v]).foldl (fun t (p, v) => t.setIfInBounds p v) a.tmps, defers := [] } W)
    (hbody : ∀ (l : Nat) (pre : List M) (A : Nat → Prop) (m : M) (v : Value) (lo : Nat) (G : Nat → Prop) (W : World), I pre A W → ItStep A0 A w W → (pre ++ [m]) <+: L → Val v m lo G W → w.heap.size + 2 ≤ lo → lo ≤ W.heap.size → (∀ k, A k → k < lo) → (∀ k, G k → lo ≤ k ∧ k < W.heap.size) → body.wpIn (Fence.wide.inRound l) n P (eachPost w.heap.size I Ix (pre ++ [m]) A G W) (a₁ v) W)
    (hdone : ∀ (A : Nat → Prop) (W : World), I L A W → ItStep A0 A w W → (∀ k, A k → A0 k ∨ w.heap.size + 2 ≤ k) → W.heap[w.heap.size]? = some (.deferred (some [])) → Q .normal { a with defers := { target := .collected w.heap.size, args := #[] } :: a.defers } W)
    (hstop : ∀ (c : Code) (pre : List M) (A : Nat → Prop) (W : World), pre <+: L → Ix c pre A W → (∀ k, A k → A0 k ∨ w.heap.size + 2 ≤ k) → W.heap[w.heap.size]? = some (.deferred (some [])) → c.wpIn Fence.wide n P Q { a with defers := { target := .collected w.heap.size, args := #[] } :: a.defers } W) :
    (Code.rangeFunc g ps assign body).wpIn Fence.wide n P Q a w := by
  refine wpIn_rangeFunc fun fn hfn => ?_
  let rec0 : LoopState → Option Code → Loop := fun st pe => { state := st, pending := pe, fn := fn, tmps := a.tmps, params := ps, assign := assign, body := body, defers := w.heap.size }
  obtain ⟨R, hR⟩ : ∃ R, R = rec0 := ⟨_, rfl⟩
  obtain ⟨U, hU⟩ : ∃ U, U = (w.alloc (.deferred (some []))).alloc (.loop (R .ready none)) := ⟨_, rfl⟩
  have hub : Below w.heap.size w U := by rw [hU]; exact ((Below.refl _ w).alloc (Nat.le_refl _) _).alloc (by simp) _
  have hus : U.heap.size = w.heap.size + 2 := by rw [hU]; simp
  have hul : U.heap[w.heap.size + 1]? = some (.loop (R .ready none)) := by
    rw [hU]; have := World.alloc_heap_new (w.alloc (.deferred (some []))) (.loop (R .ready none)); rwa [World.size_alloc] at this
  have hud : U.heap[w.heap.size]? = some (.deferred (some [])) := by
    rw [hU]; exact (Below.heap_alloc _ _ _ (by simp)).trans (World.alloc_heap_new w _)
  have hui : I [] A0 U := abidF_below hI h0 hub
  refine ⟨w.heap.size + 1, [{ target := .collected w.heap.size, args := #[] }], U, { target := .fn (.func gf) lb, args := #[.func (.yield (w.heap.size + 1)) #[] #[]] }, U, gf, #[.func (.yield (w.heap.size + 1)) #[] #[]] ++ lb, U, ?_, ?_, fun _ _ => trivial, ?_, fun h => (by simp [Fence.wide] at h), ?_⟩
  · rw [hU, hR]; exact run_enterLoop_outer _ _ _ _ _
  · simp only [resolve, hg]
    simp [go_sem]
  · simp [invoke, go_sem, eg]
  refine (callsIn_wide (n := n - 1)).2 ?_
  refine (hseq U hub hus (w.heap.size + 1) (fun pre A W => I pre A W ∧ ItStep A0 A U W ∧ W.heap[w.heap.size + 1]? = some (.loop (R .ready none)) ∧ W.heap[w.heap.size]? = some (.deferred (some [])))
    (fun pre A W => ((∃ c, Ix c pre A W ∧ W.heap[w.heap.size + 1]? = some (.loop (R .done (some c)))) ∧ W.heap[w.heap.size]? = some (.deferred (some []))) ∧ ∀ k, A k → A0 k ∨ U.heap.size ≤ k) ?_ ?_ (fun pre A1 W1 h => hIA pre A1 W1 h.1) ?_ ⟨hui, itStep_refl _ _, hul, hud⟩).mono ?_
  · intro s A W W' hj ho ht hp hs hk
    obtain ⟨h1, h2, h3, h4⟩ := hj
    have hlt := (Array.getElem?_eq_some_iff.1 h3).1
    refine ⟨hI s A W W' h1 ho ht hp hs fun k hk2 hc => hk k hk2 (hc.imp (fun x => by omega) id), ⟨⟨ho.trans h2.1.os, ht.trans h2.1.tape, hp.trans h2.1.output, Nat.le_trans h2.1.size hs, fun k hk2 hn => ?_⟩, h2.2⟩, ?_, ?_⟩
    · rw [hk k (Nat.lt_of_lt_of_le hk2 h2.1.size) (.inl hk2)]; exact h2.1.block k hk2 hn
    · rw [hk _ hlt (.inl (by omega))]; exact h3
    · rw [hk _ (by omega) (.inl (by omega))]; exact h4
  · intro s A W W' hj ho ht hp hs hk
    obtain ⟨⟨⟨c, h1, h3⟩, h4⟩, h5⟩ := hj
    have hlt := (Array.getElem?_eq_some_iff.1 h3).1
    refine ⟨⟨⟨c, hIx c s A W W' h1 ho ht hp hs fun k hk2 hc => hk k hk2 (hc.imp (fun x => by omega) id), ?_⟩, ?_⟩, h5⟩
    · rw [hk _ hlt (.inl (by omega))]; exact h3
    · rw [hk _ (by omega) (.inl (by omega))]; exact h4
  · rintro pre A1 m v lo G W1 ⟨hi, hst, hl, hd⟩ hpre - hv hlo hlo1 hAlo hG
    have hlo2 : w.heap.size + 2 ≤ lo := by omega
    have hlt : w.heap.size + 1 < W1.heap.size := (Array.getElem?_eq_some_iff.1 hl).1
    have hnA : ∀ k, w.heap.size ≤ k → k ≤ w.heap.size + 1 → ¬ A1 k := fun k h1 h2 hA => by
      rcases hst.2 k hA with h3 | h3
      · have := hA0 k h3; omega
      · omega
    have hy := run_yield (P := P) (args := #[v]) hl (by rw [hR]; exact hps.symm)
    rw [hR] at hy
    obtain ⟨V, hV⟩ : ∃ V, V = W1.putObj (w.heap.size + 1) (.loop { R .ready none with state := .busy }) := ⟨_, rfl⟩
    have hVl : V.heap[w.heap.size + 1]? = some (.loop { R .ready none with state := .busy }) := by rw [hV]; exact World.putObj_heap_same hlt
    have hVo : ∀ k, k ≠ w.heap.size + 1 → V.heap[k]? = W1.heap[k]? := fun k hk => by rw [hV]; exact World.putObj_heap_other hk
    have hVs : V.heap.size = W1.heap.size := by rw [hV]; simp
    have hVi : I pre A1 V := by rw [hV]; exact abidF_put hI _ hi (by omega) (hnA _ (by omega) (Nat.le_refl _))
    have hVv : Val v m lo G V := hVal _ _ _ _ W1 V hv (by omega) fun k hk => hVo k (by have := hG k hk; omega)
    have hVe : V.os = W1.os ∧ V.tape = W1.tape ∧ V.output = W1.output := by rw [hV]; exact ⟨rfl, rfl, rfl⟩
    have hVst : ItStep A0 A1 w V := by
      refine ⟨⟨hVe.1.trans (hst.1.os.trans hub.os), hVe.2.1.trans (hst.1.tape.trans hub.tape), hVe.2.2.trans (hst.1.output.trans hub.output), by omega, fun k hk hn => ?_⟩, fun k hA => ?_⟩
      · rw [hVo k (by omega), hst.1.block k (by omega) hn, hub.block k hk]
      · rcases hst.2 k hA with h3 | h3
        · exact .inl h3
        · exact .inr (by omega)
    refine ⟨fn, _, assign, body, hy, ?_⟩
    have hbusy : ∀ W3 : World, V.heap.size ≤ W3.heap.size → (∀ k, w.heap.size ≤ k → k < V.heap.size → ¬ A1 k → W3.heap[k]? = V.heap[k]?) → W3.heap[w.heap.size + 1]? = some (.loop { R .ready none with state := .busy }) ∧ W3.heap[w.heap.size]? = some (.deferred (some [])) ∧ w.heap.size + 1 < W3.heap.size := fun W3 h1 h2 => by
      refine ⟨?_, ?_, by omega⟩
      · rw [h2 _ (by omega) (by omega) (hnA _ (by omega) (Nat.le_refl _))]; exact hVl
      · rw [h2 _ (Nat.le_refl _) (by omega) (hnA _ (Nat.le_refl _) (by omega)), hVo _ (by omega)]; exact hd
    have hleave : ∀ (c : Code) (A' : Nat → Prop) (W3 : World), Ix c (pre ++ [m]) A' W3 → (V.heap.size ≤ W3.heap.size ∧ (∀ k, w.heap.size ≤ k → k < V.heap.size → ¬ A1 k → W3.heap[k]? = V.heap[k]?) ∧ ∀ k, A' k → A1 k ∨ G k ∨ V.heap.size ≤ k) →
        ∃ v' W4, (Instr.endRound (w.heap.size + 1) (some c)).run P W3 = .ok v' W4 ∧ (Ending.returned v' = .returned (.bool false) ∧ ∃ A2, (((∃ c, Ix c (pre ++ [m]) A2 W4 ∧ W4.heap[w.heap.size + 1]? = some (.loop (R .done (some c)))) ∧ W4.heap[w.heap.size]? = some (.deferred (some []))) ∧ ∀ k, A2 k → A0 k ∨ U.heap.size ≤ k) ∧ (W1.heap.size ≤ W4.heap.size ∧ (∀ k, U.heap.size ≤ k → k < W1.heap.size → ¬ A1 k → W4.heap[k]? = W1.heap[k]?) ∧ ∀ k, A2 k → A1 k ∨ G k ∨ W1.heap.size ≤ k)) := by
      rintro c A' W3 hi3 ⟨hs3, hk3, hA3⟩
      obtain ⟨h1, h2, h3⟩ := hbusy W3 hs3 hk3
      have hnA' : ¬ A' (w.heap.size + 1) := fun h => by
        rcases hA3 _ h with h4 | h4 | h4
        · exact hnA _ (by omega) (Nat.le_refl _) h4
        · have := hG _ h4; omega
        · omega
      refine ⟨_, _, run_endRound (P := P) (some c) h1, rfl, A', ⟨⟨⟨c, abidF_put (hIx c) _ hi3 (by omega) hnA', ?_⟩, ?_⟩, fun k hk => ?_⟩, ?_, fun k hk1 hk2 hn => ?_, fun k hk => ?_⟩
      · rw [World.putObj_heap_same h3, hR]; rfl
      · rw [World.putObj_heap_other (by omega)]; exact h2
      · rcases hA3 k hk with h4 | h4 | h4
        · exact hst.2 k h4
        · exact .inr (by have := hG _ h4; omega)
        · exact .inr (by have := hst.1.size; omega)
      · simp; omega
      · rw [World.putObj_heap_other (by omega), hk3 k (by omega) (by omega) hn, hVo k (by omega)]
      · rcases hA3 k hk with h4 | h4 | h4
        · exact .inl h4
        · exact .inr (.inl h4)
        · exact .inr (.inr (by omega))
    have key : RoundIn Fence.wide n P (w.heap.size + 1) fn ((ps.zip #[v]).foldl (fun t (p, v) => t.setIfInBounds p v) a.tmps) assign body W1 (fun e W2 => (e = .returned (.bool true) ∧ ∃ A2, (I (pre ++ [m]) A2 W2 ∧ ItStep A0 A2 U W2 ∧ W2.heap[w.heap.size + 1]? = some (.loop (R .ready none)) ∧ W2.heap[w.heap.size]? = some (.deferred (some []))) ∧ ItGive A1 A2 G W1 W2) ∨
        (e = .returned (.bool false) ∧ ∃ A2, (((∃ c, Ix c (pre ++ [m]) A2 W2 ∧ W2.heap[w.heap.size + 1]? = some (.loop (R .done (some c)))) ∧ W2.heap[w.heap.size]? = some (.deferred (some []))) ∧ ∀ k, A2 k → A0 k ∨ U.heap.size ≤ k) ∧ (W1.heap.size ≤ W2.heap.size ∧ (∀ k, U.heap.size ≤ k → k < W1.heap.size → ¬ A1 k → W2.heap[k]? = W1.heap[k]?) ∧ ∀ k, A2 k → A1 k ∨ G k ∨ W1.heap.size ≤ k))) := by
      refine roundIn_of_wpIn hfn (hassign _ v m lo G W1 _ hv ⟨V, ?_, wpIn_mono (hbody _ pre A1 m v lo G V hVi hVst hpre hVv hlo2 (by rw [hVs]; exact hlo1) hAlo (fun k hk => by rw [hVs]; exact hG k hk)) ?_⟩)
      · rw [hV]; exact run_beginRound hl (by rw [hR])
      · intro e a' W3 hp
        cases e with
        | normal =>
          obtain ⟨A', hi3, hst3⟩ := hp
          obtain ⟨h1, h2, h3⟩ := hbusy W3 hst3.1.size fun k _ hk2 hn => hst3.1.block k hk2 hn
          have hnA' : ¬ A' (w.heap.size + 1) := fun h => by
            rcases hst3.2 _ h with h4 | h4 | h4
            · exact hnA _ (by omega) (Nat.le_refl _) h4
            · have := hG _ h4; omega
            · omega
          have hstep : ItGive A1 A' G W1 (W3.putObj (w.heap.size + 1) (.loop { { R .ready none with state := .busy } with state := if (none : Option Code).isNone then .ready else .done, pending := none })) := by
            refine ⟨⟨hst3.1.os.trans hVe.1, hst3.1.tape.trans hVe.2.1, hst3.1.output.trans hVe.2.2, by have := hst3.1.size; simp; omega, fun k hk hn => ?_⟩, fun k hk => ?_⟩
            · by_cases e : k = w.heap.size + 1
              · subst e
                rw [World.putObj_heap_same h3, hl, hR]; rfl
              · rw [World.putObj_heap_other e, hst3.1.block k (by omega) hn, hVo k e]
            · rcases hst3.2 k hk with h4 | h4 | h4
              · exact .inl h4
              · exact .inr (.inl h4)
              · exact .inr (.inr (by omega))
          refine ⟨_, _, run_endRound (P := P) none h1, .inl ⟨rfl, A', ⟨abidF_put hI _ hi3 (by omega) hnA', itGive_trans hst hstep (fun i hi => by have := hG i hi; omega), ?_, ?_⟩, hstep⟩⟩
          · rw [World.putObj_heap_same h3, hR]; rfl
          · rw [World.putObj_heap_other (by omega)]; exact h2
        | ret =>
          obtain ⟨A', hi3, h3⟩ := hp
          obtain ⟨v', W4, h4, h5⟩ := hleave _ A' W3 hi3 h3
          exact ⟨v', W4, h4, .inr h5⟩
        | exit id =>
          obtain ⟨A', hi3, h3⟩ := hp
          obtain ⟨v', W4, h4, h5⟩ := hleave _ A' W3 hi3 h3
          exact ⟨v', W4, h4, .inr h5⟩
        | goto t => exact hp.elim
        | panic ch => exact hp.elim
        | outgrown => exact hp.elim
    exact ⟨key.1, fun c cs _ => key.2 c cs (room_wide _)⟩
  · rintro e W2 ⟨⟨v, rfl⟩, A2, hfin⟩
    rcases hfin with ⟨⟨hi, hst, hl, hd⟩, -⟩ | ⟨pre, hpre, ⟨⟨c, hi, hl⟩, hd⟩, hA2⟩
    · have hlt : w.heap.size + 1 < W2.heap.size := (Array.getElem?_eq_some_iff.1 hl).1
      have hnA : ∀ k, w.heap.size ≤ k → k ≤ w.heap.size + 1 → ¬ A2 k := fun k h1 h2 hA => by
        rcases hst.2 k hA with h3 | h3
        · have := hA0 k h3; omega
        · omega
      refine ⟨none, _, by have := run_endLoop (P := P) hl (by rw [hR]; simp [rec0]); rw [hR] at this; exact this, hdone A2 _ (abidF_put hI _ hi (by omega) (hnA _ (by omega) (Nat.le_refl _))) ?_ (fun k hk => by rw [← hus]; exact hst.2 k hk) ?_⟩
      · refine ⟨⟨hst.1.os.trans hub.os, hst.1.tape.trans hub.tape, hst.1.output.trans hub.output, by have := hst.1.size; simp; omega, fun k hk hn => ?_⟩, fun k hA => ?_⟩
        · rw [World.putObj_heap_other (by omega), hst.1.block k (by omega) hn, hub.block k hk]
        · rcases hst.2 k hA with h3 | h3
          · exact .inl h3
          · exact .inr (by omega)
      · rw [World.putObj_heap_other (by omega)]; exact hd
    · have hlt : w.heap.size + 1 < W2.heap.size := (Array.getElem?_eq_some_iff.1 hl).1
      have hnA : ¬ A2 (w.heap.size + 1) := fun hA => by
        rcases hA2 _ hA with h3 | h3
        · have := hA0 _ h3; omega
        · omega
      exact ⟨some c, _, by have := run_endLoop (P := P) hl (by rw [hR]; simp [rec0]); rw [hR] at this; exact this, hstop c pre A2 _ hpre (abidF_put (hIx c) _ hi (by omega) hnA) (fun k hk => by rw [← hus]; exact hA2 k hk) (by rw [World.putObj_heap_other (by omega)]; exact hd)⟩
end
end Go.Proofs.YtbogeghoekmbhaaGreat
