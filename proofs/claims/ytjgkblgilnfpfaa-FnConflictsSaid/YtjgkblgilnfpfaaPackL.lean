/-
  Texts of this claim, one behind the other: AllQ, MskP, ImgS, MakeM, HcP, MskW.
-/
import Derived.Test.YtjgkblgilnfpfaaPackK
import Derived.Test.YtjgkblgilnfpfaaPackB
import Derived.Test.YtjgkblgilnfpfaaPackI
import Derived.Test.YtjgkblgilnfpfaaPackG
import Derived.Test.YtjgkblgilnfpfaaPackJ
import Derived.Test.YtjgkblgilnfpfaaPackC
/-
  AllImages and CountImages of the model.
-/
namespace Go.Proofs.Ytjgkblgilnfpfaa
open Go.RowKit

/-- All images with given sums; none where the sums are refused. -/
def allIm (r c : List Int) : List (List (List Int)) := if existsOf r c = true then allL r c else []
def countIm (r c : List Int) : Int := if sumsOk r c = true then ((allIm r c).length : Int) else -1
theorem allL_none {r c : List Int} (h : sumsOk r c = true) (he : existsOf r c = false) : allL r c = [] := by
  obtain ⟨hr, hc, -⟩ := sumsOk_yes h
  cases r with
  | nil => simp at hr
  | cons a r =>
    rw [allL, List.flatMap_eq_nil_iff]
    intro row hrow
    cases hb : restB r (subL c row) with
    | false => simp
    | true =>
      exfalso
      have h1 := (restB_iff (by simp at hr; omega) (by rw [subL_len]; exact hc)).1 hb
      have h2 := exists_of_img hr hc ((hasImg_cons a r c).2 ⟨row, (mem_rowsL _ _ _).1 hrow, h1⟩)
      rw [he] at h2; cases h2
theorem allIm_sums {r c : List Int} (h : sumsOk r c = true) : allIm r c = allL r c := by
  unfold allIm
  cases he : existsOf r c with
  | true => simp
  | false => simp [allL_none h he]
theorem allIm_refused {r c : List Int} (h : sumsOk r c = false) : allIm r c = [] := by
  unfold allIm
  rw [if_neg]
  intro he
  rw [existsOf_sums he] at h; cases h
theorem allIm_len (r c : List Int) : (allIm r c).length ≤ 100000 := by
  unfold allIm
  split
  · rename_i h
    obtain ⟨hr, hc, -⟩ := sumsOk_yes (existsOf_sums h)
    refine Nat.le_trans (allL_len r c hc.2) ?_
    exact Nat.le_trans (Nat.pow_le_pow_right (by decide) hr.2) (by decide)
  · simp
/-- The call answers a list of lists of lists of its own, and a bool. -/
def ImgsRes2 (ms : List (List (List Int))) (b : Bool) (w : World) (e : Ending) (w' : World) : Prop := ∃ v, e = .returned (.tuple #[v, .bool b]) ∧ OwnImgs w' w.heap.size v ms ∧ Below w.heap.size w w'
theorem ownImgs_nil (w : World) (lo : Nat) : OwnImgs w lo (.slice none 0 0) [] := ⟨[], World.ownsRow_nil _ _ _ _, fun _ h => absurd h (Nat.not_lt_zero _)⟩

set_option maxHeartbeats 400000 in
theorem specAllIm_any (va vb : Value) (r c : List Int) (w : World) (ha : RowC w va r) (hb : RowC w vb c) :
    Calls Try.prog 15 #[va, vb] w (ImgsRes2 (allIm r c) (sumsOk r c) w) := by
  have HA := hide ha.1; have HB := hide hb.1
  cases h : sumsOk r c with
  | false =>
    rw [allIm_refused h]
    have H := hide h
    clear h ha hb
    go_enter Try.func15, Try.ntmps15
    go_wp2_with ((with_reducible refine (specSumsOk_any va vb r c _ HA.out HB.out).mono ?_); rw [H.out]; rintro e w1 ⟨rfl, b1⟩; have B1 := hide b1; clear b1)
    go_ret2
    exact ⟨_, rfl, ownImgs_nil _ _, B1.out⟩
  | true =>
    have H := hide h
    cases he : existsOf r c with
    | false =>
      rw [allIm_sums h, allL_none h he]
      have HE := hide he
      clear h he ha hb
      go_enter Try.func15, Try.ntmps15
      go_wp2_with (first | ((with_reducible refine (specSumsOk_any va vb r c _ HA.out HB.out).mono ?_); rw [H.out]; rintro e w1 ⟨rfl, b1⟩; have B1 := hide b1; clear b1) | ((with_reducible refine (specExists_any va vb r c _ (inRow_below HA.out B1.out) (inRow_below HB.out B1.out)).mono ?_); rw [HE.out]; rintro e w2 ⟨rfl, b2⟩; have B2 := hide (B1.out.trans (b2.mono B1.out.size)); clear b2))
      go_ret2
      exact ⟨_, rfl, ownImgs_nil _ _, B2.out⟩
    | true =>
      rw [allIm_sums h]
      have HE := hide he
      have HALL := hide fun (w' : World) (hw : Below w.heap.size w w') => specAll_start r c va vb w w' ha hb.1 he hw
      obtain ⟨xa, ca, hva, -, -⟩ := ha.1
      obtain ⟨xb, cb, hvb, -, -⟩ := hb.1
      subst hva hvb
      obtain ⟨R, hR⟩ : ∃ R, R = r.length := ⟨_, rfl⟩
      obtain ⟨C, hC⟩ : ∃ C, C = c.length := ⟨_, rfl⟩
      rw [← hR] at HA HALL ⊢
      rw [← hC] at HB HALL ⊢
      clear h he ha hb hR hC
      go_enter Try.func15, Try.ntmps15
      go_wp2_with (first | ((with_reducible refine (specSumsOk_any _ _ r c _ HA.out HB.out).mono ?_); rw [H.out]; rintro e w1 ⟨rfl, b1⟩; have B1 := hide b1; clear b1) | ((with_reducible refine (specExists_any _ _ r c _ (inRow_below HA.out B1.out) (inRow_below HB.out B1.out)).mono ?_); rw [HE.out]; rintro e w2 ⟨rfl, b2⟩; have B2 := hide (B1.out.trans (b2.mono B1.out.size)); clear b2) | ((with_reducible refine (HALL.out _ B2.out).mono ?_); rintro e w3 ⟨u, rfl, ⟨us, hv, hm⟩, hb3⟩; obtain ⟨au, cu, rfl⟩ := own_slice hv; have HR3 := hide (And.intro (show OwnImgs _ _ _ _ from ⟨us, hv, hm⟩) hb3); clear hv hm hb3))
      go_ret2
      exact ⟨_, rfl, HR3.out.1, HR3.out.2⟩

set_option maxHeartbeats 400000 in
theorem specCount_im (va vb : Value) (r c : List Int) (w : World) (ha : RowC w va r) (hb : RowC w vb c) :
    Calls Try.prog 23 #[va, vb] w fun e w' => e = .returned (.int .i64 (countIm r c)) ∧ Below w.heap.size w w' := by
  have HALL := hide (specAllIm_any va vb r c w ha hb)
  have HLEN := hide (allIm_len r c)
  have HCI := hide (show countIm r c = if sumsOk r c = true then ((allIm r c).length : Int) else -1 from rfl)
  obtain ⟨ms, hms⟩ : ∃ ms, ms = allIm r c := ⟨_, rfl⟩
  obtain ⟨ok, hok⟩ : ∃ ok, ok = sumsOk r c := ⟨_, rfl⟩
  obtain ⟨ans, hans⟩ : ∃ ans, ans = countIm r c := ⟨_, rfl⟩
  rw [← hans] at HCI ⊢
  rw [← hms, ← hok] at HALL HCI
  rw [← hms] at HLEN
  clear hms hok hans ha hb
  go_enter Try.func23, Try.ntmps23
  go_wp2_with fail
  refine HALL.out.mono ?_
  rintro e w2 ⟨u, rfl, ⟨us, hv, -⟩, hb2⟩
  obtain ⟨au, cu, rfl⟩ := own_slice hv
  have HB2 := hide hb2
  clear hv hb2
  cases ok with
  | false =>
    go_wp2
    go_ret
    exact ⟨by rw [HCI.out]; rfl, HB2.out⟩
  | true =>
    go_wp2
    go_ret
    exact ⟨by rw [HCI.out]; rfl, HB2.out⟩
end Go.Proofs.Ytjgkblgilnfpfaa
/-
  Masks: what meets them, all images that do, and when there is none.
-/
namespace Go.Proofs.Ytjgkblgilnfpfaa
open Go.RowKit Mx

/-- Two lists of one length whose elements fit, one by one. -/
def eqBy {α β : Type} (p : α → β → Bool) : List α → List β → Bool
  | [], [] => true
  | a :: l, b :: k => p a b && eqBy p l k
  | _, _ => false
theorem eqBy_len {α β : Type} {p : α → β → Bool} : ∀ {l : List α} {k : List β}, eqBy p l k = true → l.length = k.length
  | [], [], _ => rfl
  | a :: l, b :: k, h => by
    simp only [eqBy, Bool.and_eq_true] at h
    simp [eqBy_len h.2]
  | [], _ :: _, h => by simp [eqBy] at h
  | _ :: _, [], h => by simp [eqBy] at h
theorem eqBy_at {α β : Type} {p : α → β → Bool} : ∀ {l : List α} {k : List β} (i : Nat) (h1 : i < l.length) (h2 : i < k.length), eqBy p l k = true → p l[i] k[i] = true
  | a :: l, b :: k, 0, _, _, h => by simp only [eqBy, Bool.and_eq_true] at h; exact h.1
  | a :: l, b :: k, i + 1, h1, h2, h => by
    simp only [eqBy, Bool.and_eq_true] at h
    simpa using eqBy_at i (by simpa using h1) (by simpa using h2) h.2
theorem eqBy_yes {α β : Type} {p : α → β → Bool} : ∀ {l : List α} {k : List β}, l.length = k.length → (∀ i (h1 : i < l.length) (h2 : i < k.length), p l[i] k[i] = true) → eqBy p l k = true
  | [], [], _, _ => rfl
  | a :: l, b :: k, h, hp => by
    simp only [eqBy, Bool.and_eq_true]
    exact ⟨hp 0 (by simp) (by simp), eqBy_yes (by simpa using h) fun i h1 h2 => hp (i + 1) (by simpa using h1) (by simpa using h2)⟩
  | [], _ :: _, h, _ => by simp at h
  | _ :: _, [], h, _ => by simp at h
theorem eqBy_no1 {α β : Type} {p : α → β → Bool} {l : List α} {k : List β} (h : l.length ≠ k.length) : eqBy p l k = false := by
  cases e : eqBy p l k with
  | false => rfl
  | true => exact absurd (eqBy_len e) h
theorem eqBy_no2 {α β : Type} {p : α → β → Bool} {l : List α} {k : List β} (i : Nat) (h1 : i < l.length) (h2 : i < k.length) (h : p l[i] k[i] = false) : eqBy p l k = false := by
  cases e : eqBy p l k with
  | false => rfl
  | true => have := eqBy_at i h1 h2 e; rw [h] at this; cases this

/-- A cell meets an element of a mask. -/
def meetC (c k : Int) : Bool := k == -1 || k == c
def meetR : List Int → List Int → Bool := eqBy meetC
def meetM : List (List Int) → List (List Int) → Bool := eqBy meetR
def meetsB (m k : List (List Int)) : Bool := okB m && meetM m k
def maskRowB (C : Nat) (q : List Int) : Bool := q.length == C && q.all fun x => x == -1 || cellOk x
def maskB (k : List (List Int)) (r c : List Int) : Bool := sumsOk r c && k.length == r.length && k.all (maskRowB c.length)

/-- All images whose rows are chosen so, row by row: p says of a row, before these sums of the rows below, whether it may stand there. -/
def imL (p : List Int → List Int → Bool) : List Int → List Int → List (List (List Int))
  | [], _ => [[]]
  | a :: r, c => ((firstRows a r c).filter (p r)).flatMap fun row => (imL p r (subL c row)).map (row :: ·)
theorem imL_all : ∀ (r c : List Int), imL (fun _ _ => true) r c = allL r c
  | [], _ => rfl
  | a :: r, c => by
    rw [imL, allL, List.filter_eq_self.2 (fun _ _ => rfl), firstRows, flat_filterM]
    exact congrArg (List.flatMap · _) (funext fun row => by rw [imL_all r])
where
  flat_filterM {α β : Type} (p : α → Bool) (f : α → List β) : ∀ l : List α, (l.filter p).flatMap f = l.flatMap fun x => if p x then f x else []
  | [] => rfl
  | x :: l => by
    rw [List.flatMap_cons, List.filter_cons, ← flat_filterM p f l]
    cases p x <;> simp
theorem imL_sub (p : List Int → List Int → Bool) : ∀ (r c : List Int), ∀ {m : List (List Int)}, m ∈ imL p r c → m ∈ allL r c
  | [], _, _, h => h
  | a :: r, c, m, h => by
    rw [imL, List.mem_flatMap] at h
    obtain ⟨row, h1, h2⟩ := h
    obtain ⟨m', h3, rfl⟩ := List.mem_map.1 h2
    obtain ⟨h4, -⟩ := List.mem_filter.1 h1
    obtain ⟨h5, h6⟩ := List.mem_filter.1 h4
    rw [allL, List.mem_flatMap]
    exact ⟨row, h5, by rw [if_pos h6]; exact List.mem_map.2 ⟨m', imL_sub p r _ h3, rfl⟩⟩
/-- The row of a mask that stands before so many rows. -/
def maskP (k : List (List Int)) (r row : List Int) : Bool := meetR row (k.getD (k.length - (r.length + 1)) [])
theorem filter_map_cons {α : Type} (q : List α → Bool) (x : α) : ∀ l : List (List α), (l.map (x :: ·)).filter q = (l.filter fun m => q (x :: m)).map (x :: ·)
  | [] => rfl
  | m :: l => by
    rw [List.map_cons, List.filter_cons, List.filter_cons, filter_map_cons q x l]
    cases q (x :: m) <;> simp
theorem filter_flat {α β : Type} (q : β → Bool) (f : α → List β) : ∀ l : List α, (l.flatMap f).filter q = l.flatMap fun x => (f x).filter q
  | [] => rfl
  | x :: l => by rw [List.flatMap_cons, List.flatMap_cons, List.filter_append, filter_flat q f l]
theorem imL_mask : ∀ (r c : List Int) (k : List (List Int)), r.length ≤ k.length → imL (maskP k) r c = (allL r c).filter fun m => meetM m (k.drop (k.length - r.length))
  | [], c, k, _ => by
    rw [imL, allL, List.length_nil, Nat.sub_zero, List.drop_length]; rfl
  | a :: r, c, k, h => by
    rw [List.length_cons] at h
    have hd : k.drop (k.length - (r.length + 1)) = k.getD (k.length - (r.length + 1)) [] :: k.drop (k.length - r.length) := by
      rw [List.drop_eq_getElem_cons (by omega), List.getD_eq_getElem?_getD, List.getElem?_eq_getElem (by omega), Option.getD_some, show k.length - (r.length + 1) + 1 = k.length - r.length by omega]
    rw [imL, List.length_cons, hd, ← imL_all, imL, filter_flat, List.filter_eq_self.2 (fun _ _ => rfl), imL_all.flat_filterM]
    refine congrArg (List.flatMap · _) (funext fun row => ?_)
    rw [filter_map_cons, imL_all, imL_mask r (subL c row) k (by omega)]
    have hp : ∀ m, meetM (row :: m) (k.getD (k.length - (r.length + 1)) [] :: k.drop (k.length - r.length)) = (maskP k r row && meetM m (k.drop (k.length - r.length))) := fun m => rfl
    cases hc : maskP k r row with
    | false =>
      rw [if_neg (by simp), List.filter_eq_nil_iff.2 (fun m _ => by rw [hp, hc]; simp)]; rfl
    | true =>
      rw [if_pos rfl]
      exact congrArg _ (List.filter_congr fun m _ => by rw [hp, hc, Bool.true_and])
/-- The images that meet a mask. -/
def maskedL (k : List (List Int)) (r c : List Int) : List (List (List Int)) := (allIm r c).filter fun m => meetM m k
theorem maskedL_im {k : List (List Int)} {r c : List Int} (h : maskB k r c = true) : imL (maskP k) r c = maskedL k r c := by
  unfold maskB at h
  simp only [Bool.and_eq_true, beq_iff_eq] at h
  rw [imL_mask r c k (by omega), h.1.2, Nat.sub_self, List.drop_zero, maskedL, allIm_sums h.1.1]
def maskedImB (k : List (List Int)) (r c : List Int) : Bool := maskB k r c && !(maskedL k r c).isEmpty
def maskedIm (k : List (List Int)) (r c : List Int) : List (List Int) := if maskB k r c = true then (maskedL k r c).headD [] else []
def maskedCnt (k : List (List Int)) (r c : List Int) : Int := if maskB k r c = true then ((maskedL k r c).length : Int) else -1
end Go.Proofs.Ytjgkblgilnfpfaa
/-
  The sums of an image, as an image's sums.
-/
namespace Go.Proofs.Ytjgkblgilnfpfaa
open Go.RowKit

theorem S_cnt (g : Nat → Int) : ∀ n, (∀ i, i < n → g i = 0 ∨ g i = 1) → Mx.S n g = (cnt (fun i => g i == 1) n : Nat)
  | 0, _ => rfl
  | n + 1, h => by
    rw [Mx.S, S_cnt g n fun i hi => h i (Nat.lt_succ_of_lt hi), cnt]
    rcases h n (Nat.lt_succ_self n) with e | e <;> simp [e]
theorem rowF_getD {n : Nat} {g : Nat → Int} {i : Nat} (h : i < n) : (rowF n g).getD i 0 = g i := by simp [rowF, h]
section
variable {R C : Nat} {f : Nat → Nat → Int}
theorem rows_len (R C : Nat) (f : Nat → Nat → Int) : (rowsL R C f).length = R := rowF_len _ _
theorem rowsL_at (hI : Img R C f) {y : Nat} (hy : y < R) : (rowsL R C f).getD y 0 = Mx.S C (f y) := by
  unfold rowsL
  rw [rowF_getD hy, S_cnt _ _ fun x hx => hI.cell y x hy hx]; rfl
theorem colsL_at (hI : Img R C f) {x : Nat} (hx : x < C) : (rowsL C R (trM f)).getD x 0 = Mx.S R fun y => f y x := by
  unfold rowsL
  rw [rowF_getD hx, S_cnt _ _ fun y hy => hI.cell y x hy hx]; rfl
theorem imgF_iff (hI : Img R C f) (g : Nat → Nat → Int) : ImgF (rowsL R C f) (rowsL C R (trM f)) g ↔ (∀ y x, y < R → x < C → g y x = 0 ∨ g y x = 1) ∧ (∀ y, y < R → Mx.S C (g y) = Mx.S C (f y)) ∧ ∀ x, x < C → Mx.S R (fun y => g y x) = Mx.S R fun y => f y x := by
  constructor
  · rintro ⟨h1, h2, h3⟩
    rw [rows_len, rows_len] at h1
    refine ⟨h1, fun y hy => ?_, fun x hx => ?_⟩
    · have := h2 y (by rw [rows_len]; exact hy)
      rw [rows_len, rowsL_at hI hy] at this; exact this
    · have := h3 x (by rw [rows_len]; exact hx)
      rw [rows_len, colsL_at hI hx] at this; exact this
  · rintro ⟨h1, h2, h3⟩
    refine ⟨by rw [rows_len, rows_len]; exact h1, fun y hy => ?_, fun x hx => ?_⟩
    · rw [rows_len] at hy
      rw [rows_len, rowsL_at hI hy]; exact h2 y hy
    · rw [rows_len] at hx
      rw [rows_len, colsL_at hI hx]; exact h3 x hx
theorem imgF_self (hI : Img R C f) : ImgF (rowsL R C f) (rowsL C R (trM f)) f := (imgF_iff hI f).2 ⟨hI.cell, fun _ _ => rfl, fun _ _ => rfl⟩
end
theorem sumsOk_img {R C : Nat} {f : Nat → Nat → Int} (hI : Img R C f) : sumsOk (rowsL R C f) (rowsL C R (trM f)) = true :=
  existsOf_sums (exists_of_img (by rw [rows_len]; exact ⟨hI.r1, hI.r2⟩) (by rw [rows_len]; exact ⟨hI.c1, hI.c2⟩) ⟨f, imgF_self hI⟩)
end Go.Proofs.Ytjgkblgilnfpfaa
/-
  What the laws draw for a mask: an image's sums, and a mask of its size.
-/
namespace Go.Proofs.Ytjgkblgilnfpfaa
open Go.RowKit

set_option maxHeartbeats 400000 in
theorem l01Pick_any (B n : Nat) (a : Option Addr) (g len cap : Nat) (l : List Int) (hln : len = l.length) (w : World) (base : Nat) (hc : CurAt w B a n) (hin : InBytes w base a n) (hbase : base ≤ B) (h1 : 1 ≤ l.length ∧ l.length ≤ 100) (hg : g ≠ B) (hlt : g < w.heap.size)
    (hl : ∀ i, (h : i < l.length) → w.cell? ⟨g, i, none⟩ = some (.int .i64 l[i])) :
    Calls Try.prog 38 #[.pointer (some ⟨B, 0, none⟩), .slice (some ⟨g, 0, none⟩) len cap] w fun e w' => ∃ z, z ∈ l ∧ e = .returned (.int .i64 z) ∧ CurAt w' B a n ∧ w.grownBy w' (some B) := by
  have HC := hide hc; have HI := hide hin; have HL := hide hl
  obtain ⟨k, rfl⟩ : ∃ k, k = len := ⟨_, rfl⟩
  have HK := hide hln
  rw [← hln] at h1
  obtain ⟨h1a, h1b⟩ := h1
  clear hc hin hl hln
  go_enter Try.func38, Try.ntmps38
  go_wp2_with fail
  refine (l01Below_any B n a k _ base (by omega) (by omega) HC.out HI.out hbase).mono ?_
  rintro e w1 ⟨x, hx0, hx1, rfl, hc1, hg1⟩
  obtain ⟨j, rfl⟩ : ∃ j : Nat, x = j := ⟨x.toNat, by omega⟩
  have hj : j < k := by omega
  have hjl : j < l.length := by rw [← HK.out]; exact hj
  have hcell : w1.cell? ⟨g, j, none⟩ = some (.int .i64 l[j]) := (World.cell?_of_block (hg1.block g hlt (by simp; omega))).trans (HL.out j hjl)
  have HMEM := hide (show l[j] ∈ l from List.getElem_mem hjl)
  obtain ⟨z, hz⟩ : ∃ z, z = l[j] := ⟨_, rfl⟩
  rw [← hz] at hcell HMEM
  have HC1 := hide hc1; have HG1 := hide hg1
  clear hc1 hg1 hz hx0 hx1
  go_wp2
  go_ret
  exact ⟨z, HMEM.out, rfl, HC1.out, HG1.out⟩
theorem pick_range {x z : Int} (hx : x = 0 ∨ x = 1) (h : z ∈ [-1, -1, x, x, 1 - x, -1]) : z = -1 ∨ z = 0 ∨ z = 1 := by
  simp only [List.mem_cons, List.not_mem_nil, or_false] at h
  omega
/-- Rows of a mask that are there already. -/
def RowsM (C : Nat) (k : List (List Int)) : Prop := ∀ q ∈ k, q.length = C ∧ ∀ x ∈ q, x = -1 ∨ x = 0 ∨ x = 1
theorem rowsM_push {C : Nat} {k : List (List Int)} {q : List Int} (h : RowsM C k) (hq : q.length = C ∧ ∀ x ∈ q, x = -1 ∨ x = 0 ∨ x = 1) : RowsM C (k ++ [q]) := by
  intro p hp
  rcases List.mem_append.1 hp with hp | hp
  · exact h p hp
  · rw [List.mem_singleton.1 hp]; exact hq
theorem maskB_rows {C : Nat} {k : List (List Int)} {r c : List Int} (h : RowsM C k) (hs : sumsOk r c = true) (hk : k.length = r.length) (hc : c.length = C) : maskB k r c = true := by
  unfold maskB
  rw [hs, beq_iff_eq.2 hk, Bool.true_and, Bool.true_and, List.all_eq_true]
  intro q hq
  obtain ⟨h1, h2⟩ := h q hq
  unfold maskRowB
  rw [beq_iff_eq.2 (by omega), Bool.true_and, List.all_eq_true]
  intro x hx
  rcases h2 x hx with rfl | rfl | rfl <;> rfl
/-- What MakeMask answers. -/
def MadeMask (w : World) (e : Ending) (w' : World) : Prop :=
  ∃ (vk vr vc : Value) (k : List (List Int)) (r c : List Int), e = .returned (.tuple #[vk, vr, vc]) ∧ maskB k r c = true ∧ InMat w' vk k ∧ w'.ownsRow w.heap.size 3 1 vr r.length (ints r) ∧ w'.ownsRow w.heap.size 3 1 vc c.length (ints c) ∧ Below w.heap.size w w'
/-- What stands while a mask is drawn: the cursor, the code, the image. -/
structure MkSt (w : World) (B n base lo hi : Nat) (a : Option Addr) (v : Value) (m : List (List Int)) (W : World) : Prop where
  cur : CurAt W B a n
  code : InBytes W base a n
  img : OwnMat W lo hi v m
  below : Below w.heap.size w W
  size : hi + 1 ≤ W.heap.size
theorem mkSt_below {w : World} {B n base lo hi T : Nat} {a : Option Addr} {v : Value} {m : List (List Int)} {W W' : World} (h : MkSt w B n base lo hi a v m W) (hb : Below T W W') (hT : hi ≤ T) (hB : B < lo) (hbase : base ≤ B) (hw : w.heap.size = B) (hlo : lo ≤ hi) : MkSt w B n base lo hi a v m W' :=
  ⟨curAt_within h.cur (hb.block B (by omega)), inBytes_below h.code (hb.mono (by omega)), ownMat_within h.img (lo' := T) (hi' := W.heap.size) ⟨hb.os, hb.tape, hb.output, hb.size, fun k hk hn => hb.block k (by omega)⟩ (.inl hT), h.below.trans (hb.mono (by omega)), Nat.le_trans h.size hb.size⟩
theorem mkSt_drawn {w : World} {B n base lo hi : Nat} {a : Option Addr} {v : Value} {m : List (List Int)} {W W' : World} (h : MkSt w B n base lo hi a v m W) (hc : CurAt W' B a n) (hg : W.grownBy W' (some B)) (hB : B < lo) (hbase : base ≤ B) (hw : w.heap.size = B) : MkSt w B n base lo hi a v m W' :=
  ⟨hc, inBytes_grown h.code hg hbase, ownMat_cur h.img hg hB, by rw [hw]; exact below_drawn' h.below hg hw, Nat.le_trans h.size hg.size⟩
where
  below_drawn' {w W W' : World} {B : Nat} (h : Below w.heap.size w W) (hg : W.grownBy W' (some B)) (hw : w.heap.size = B) : Below B w W' := by
    have := below_drawn h hg (by omega)
    rwa [hw] at this
set_option maxRecDepth 100000 in
set_option maxHeartbeats 2000000 in
theorem makeMask_any (n c : Nat) (a : Option Addr) (w : World) (base : Nat) (hin : InBytes w base a n) (hn : n ≤ 2000000) :
    Calls Try.prog 10 #[.slice a n c] w (MadeMask w) := by
  have HI := hide hin
  clear hin
  go_enter Try.func10, Try.ntmps10
  go_wp2_with fail
  refine (l01New_any n c a _ base HI.out hn).mono ?_
  rintro e w1 ⟨rfl, hc, hb, hlt⟩
  obtain ⟨B, hB⟩ : ∃ B, B = w.heap.size := ⟨_, rfl⟩
  have HBE := hide hB
  rw [← hB] at hc hlt ⊢
  have hbase : base ≤ B := by rw [hB]; exact HI.out.2.1
  have HC := hide hc; have HB := hide hb
  have HI1 := hide (inBytes_below HI.out (hb.mono HI.out.2.1))
  have hs1 := hb.size
  rw [← hB] at hs1
  clear hc hb hB
  go_wp2_with fail
  refine (l02Draw_most B n a 4 _ base (by omega) (by omega) HC.out HI1.out hbase).mono ?_
  rintro e w2 ⟨v, R, C, f, rfl, him, hm4, ho, hc, hb⟩
  obtain ⟨hR1, hR5, hC1, hC5, hcl⟩ := id him
  have HIM := hide him
  obtain ⟨gv, cv, rfl⟩ := ownMat_some ho (by rw [mkM_len]; omega)
  rw [mkM_len] at ho ⊢
  have HC2 := hide hc; have HB2 := hide (show Below w.heap.size w w2 by rw [← HBE.out]; exact (HBE.out ▸ HB.out).trans hb)
  have HO2 := hide ho
  have HI2 := hide (inBytes_below HI1.out (hb.mono hbase))
  have hs2 := hb.size
  clear ho hc hb him hm4
  have HK0 : Hid (OwnMat (w2.alloc (.cells #[] 24)) w2.heap.size (w2.heap.size + 1) (.slice (some ⟨w2.heap.size, 0, none⟩) 0 0) []) := hide ⟨[], World.ownsRow_made (base := w2.heap.size) w2 #[] 0 (Nat.le_refl _) (Nat.zero_le _) rfl, (fun k e => by simp [Value.ownBlock] at e; subst e; simp), (fun i h => absurd h (Nat.not_lt_zero _)), fun i j _ h => absurd h (Nat.not_lt_zero _)⟩
  have HAL2 := hide ((Below.refl w2.heap.size w2).alloc (Nat.le_refl _) (.cells #[] 24))
  have HSA2 := hide (show (w2.alloc (.cells #[] 24)).heap.size = w2.heap.size + 1 by simp)
  have HLIM := hide (show B < w1.heap.size by exact hlt)
  go_wp2_with fail
  have HST : Hid (MkSt w B n base w1.heap.size w2.heap.size a (.slice (some ⟨gv, 0, none⟩) R cv) (mkM R C f) (w2.alloc (.cells #[] 24))) := hide ⟨curAt_below HC2.out HAL2.out, inBytes_below HI2.out (HAL2.out.mono (by have := HI2.out.2.1; omega)), ownMat_below HO2.out HAL2.out, HB2.out.trans (HAL2.out.mono HB2.out.size), by rw [HSA2.out]; exact Nat.le_refl _⟩
  obtain ⟨lo, hlo⟩ : ∃ lo, lo = w1.heap.size := ⟨_, rfl⟩
  obtain ⟨hi, hhi⟩ : ∃ hi, hi = w2.heap.size := ⟨_, rfl⟩
  have HKK : Hid (OwnMat (w2.alloc (.cells #[] 24)) hi (w2.alloc (.cells #[] 24)).heap.size (.slice (some ⟨hi, 0, none⟩) 0 0) []) := hide (by rw [HSA2.out, hhi]; exact HK0.out)
  rw [← hlo] at HST hlt hs2
  rw [← hhi] at HST hs2 ⊢
  have HGV := hide (show gv ≠ B ∧ gv < hi ∧ lo ≤ gv by
    obtain ⟨vs, hvs, hvh, -⟩ := HO2.out
    have h1 := (hvs.lt gv rfl).1
    have h2 := hvh gv rfl
    omega)
  clear HK0 HAL2 HC2 HI2 HB2 HO2 HC HB HI1 hlo hhi HSA2 HLIM
  go_loopw [7, 20] (fun u i W => ∃ (y : Nat) (k : List (List Int)) (uk : Value), y ≤ R ∧ i = .int .i64 y ∧ uk = u ∧ OwnMat W hi W.heap.size uk k ∧ (k.length = y ∧ RowsM C k) ∧ MkSt w B n base lo hi a (.slice (some ⟨gv, 0, none⟩) R cv) (mkM R C f) W) (fun _ i _ => R - (intOf i).toNat)
  case atStart => exact ⟨0, [], _, Nat.zero_le _, rfl, rfl, HKK.out, ⟨rfl, fun q hq => by cases hq⟩, HST.out⟩
  case round =>
    clear HKK HST
    obtain ⟨y, k, uk, hy, rfl, rfl, hk, hkk, hst⟩ := hrel
    obtain ⟨au, cu, rfl⟩ : ∃ au cu, uk = Value.slice au k.length cu := by obtain ⟨vs, hv, -⟩ := id hk; obtain ⟨a', c', e⟩ := own_slice hv; exact ⟨a', c', e⟩
    obtain ⟨hkl, hrm⟩ := hkk
    rw [hkl] at hk ⊢
    have HK := hide hk; have HRM := hide hrm; have HST := hide hst; have HKL := hide hkl
    have hsz := hst.size
    clear hk hrm hst hkl
    by_cases hlt2 : y < R
    · obtain ⟨g0, c0, hrow0, -, -, hg0lo, hg0hi, -⟩ := ownMat_cell HST.out.img y 0 hlt2 (by omega)
      have HR0 := hide hrow0
      have HSA : Hid ((wr.alloc (.cells #[] 3)).heap.size = wr.heap.size + 1) := hide (by simp)
      have HAL := hide ((Below.refl wr.heap.size wr).alloc (Nat.le_refl _) (.cells #[] 3))
      have HX : Hid ((wr.alloc (.cells #[] 3)).ownsRow wr.heap.size 3 1 (.slice (some ⟨wr.heap.size, 0, none⟩) 0 0) 0 []) := hide (World.ownsRow_made (base := wr.heap.size) wr #[] 0 (Nat.le_refl _) (Nat.zero_le _) rfl)
      obtain ⟨rb, hrb⟩ : ∃ rb, rb = wr.heap.size := ⟨_, rfl⟩
      have HRB := hide hrb
      have HKA := hide (show OwnMat (wr.alloc (.cells #[] 3)) hi rb (.slice au y cu) k by rw [hrb]; exact ownMat_below HK.out HAL.out)
      have HSTA := hide (mkSt_below HST.out HAL.out (by omega) hlt hbase HBE.out.symm hs2)
      have HRA := hide (below_cell HAL.out (World.block_lt_of_cell? wr _ hrow0) hrow0)
      have hrbh : hi + 1 ≤ rb := by omega
      clear hrb
      go_wp2
      clear hrow0
      rw [← HRB.out] at HX ⊢
      go_loopw [10, 27] (fun u i W => ∃ (x : Nat) (q : List Int) (uq : Value), x ≤ C ∧ i = .int .i64 x ∧ uq = u ∧ W.ownsRow rb 3 1 uq x (ints q) ∧ (q.length = x ∧ ∀ z ∈ q, z = -1 ∨ z = 0 ∨ z = 1) ∧ OwnMat W hi rb (.slice au y cu) k ∧ W.cell? ⟨gv, y, none⟩ = some (.slice (some ⟨g0, 0, none⟩) C c0) ∧ rb < W.heap.size ∧ MkSt w B n base lo hi a (.slice (some ⟨gv, 0, none⟩) R cv) (mkM R C f) W) (fun _ i _ => C - (intOf i).toNat)
      case atStart => exact ⟨0, [], _, Nat.zero_le _, rfl, rfl, HX.out, ⟨rfl, fun z hz => by cases hz⟩, HKA.out, HRA.out, by rw [HSA.out]; have := HRB.out; omega, HSTA.out⟩
      case round =>
        clear HX HKA HRA HSTA HST HK HR0 HAL HSA
        obtain ⟨x, q, uq, hx, rfl, rfl, ho, hq, hk, hr, hszr, hst⟩ := hrel
        obtain ⟨aq, cq, rfl⟩ := own_slice ho
        obtain ⟨hql, hqr⟩ := hq
        have HO := hide ho; have HKA := hide hk; have HRA := hide hr; have HST := hide hst; have HQL := hide hql; have HQR := hide hqr
        have hszi := hst.size
        clear ho hk hr hst hql hqr
        by_cases hlx : x < C
        · have hxI : (x : Int) < C := by omega
          have hrowv := HRA.out
          obtain ⟨g7, c7, hrow7, hcell, -, hg7lo, hg7hi, -⟩ := ownMat_cell HST.out.img y x hlt2 hlx
          rw [hrowv] at hrow7
          simp only [Option.some.injEq, Value.slice.injEq, Addr.mk.injEq] at hrow7
          obtain ⟨⟨rfl, -, -⟩, -, -⟩ := hrow7
          have hz01 := hcl y x hlt2 hlx
          obtain ⟨z, hz⟩ : ∃ z, z = f y x := ⟨_, rfl⟩
          rw [← hz] at hcell hz01
          have HZ := hide hz01
          obtain ⟨hz0, hz1⟩ : 0 ≤ z ∧ z ≤ 1 := by omega
          clear hz01 hz hrowv
          obtain ⟨W1, hW1⟩ : ∃ W1, W1 = wr.alloc (.cells #[.int .i64 (-1), .int .i64 (-1), .int .i64 z, .int .i64 z, .int .i64 (1 - z), .int .i64 (-1)] 3) := ⟨_, rfl⟩
          have HAL1 := hide (show Below wr.heap.size wr W1 by rw [hW1]; exact (Below.refl _ wr).alloc (Nat.le_refl _) _)
          have HS1 := hide (show W1.heap.size = wr.heap.size + 1 by rw [hW1]; simp)
          have HCL1 := hide (show ∀ i, (h : i < [-1, -1, z, z, 1 - z, -1].length) → W1.cell? ⟨wr.heap.size, i, none⟩ = some (.int .i64 [-1, -1, z, z, 1 - z, -1][i]) from fun i h => by
            rw [hW1, World.cell?_alloc_new]
            have : i < 6 := h
            rcases i with _ | _ | _ | _ | _ | _ | i
            all_goals first | rfl | omega)
          have HST1 := hide (mkSt_below HST.out HAL1.out (by omega) hlt hbase HBE.out.symm hs2)
          have HO1 := hide (own_below HO.out HAL1.out)
          have HKA1 := hide (ownMat_below HKA.out HAL1.out)
          have HRA1 := hide (below_cell HAL1.out (World.block_lt_of_cell? wr _ HRA.out) HRA.out)
          have HPK := hide (l01Pick_any B n a wr.heap.size 6 6 [-1, -1, z, z, 1 - z, -1] rfl W1 base HST1.out.cur HST1.out.code hbase (by simp) (by omega) (by rw [HS1.out]; omega) HCL1.out)
          go_wp2_with fail
          rw [← hW1]
          clear hW1 hcell
          refine HPK.out.mono ?_
          rintro e W5 ⟨p, hp, rfl, hc5, hg5⟩
          have HP := hide (pick_range HZ.out hp)
          have HST5 := hide (mkSt_drawn HST1.out hc5 hg5 hlt hbase HBE.out.symm)
          have HO5 := hide (HO1.out.kept hg5 (Or.inr fun e => by have h := (HO1.out.lt B (by rw [e])).1; omega))
          have HKA5 := hide (ownMat_cur HKA1.out hg5 (by omega))
          have HRA5 := hide (show W5.cell? ⟨gv, y, none⟩ = some (.slice (some ⟨g0, 0, none⟩) C c0) from (World.cell?_of_block (hg5.block gv (World.block_lt_of_cell? W1 _ HRA1.out) (by have := HGV.out.1; simp; omega))).trans HRA1.out)
          have hs5 := hg5.size
          rw [HS1.out] at hs5
          clear hp hc5 hg5 HPK HCL1
          have hx5 : x ≤ 5 := by omega
          go_wp2_with (at_builtin; refine wpList_push HO5.out (.int .i64 p) (.int .i64 0) rfl _ _ rfl Try.underlying24 Try.infoInt rfl (by decide) rfl rfl rfl (by omega) (by omega) ?_; intro v' w6 hown1 hb1 hg1)
          go_roundw
          case rel =>
            have hs6 := hb1.size
            have e : ints (q ++ [p]) = ints q ++ [.int .i64 p] := by simp [ints]
            refine ⟨x + 1, q ++ [p], _, by omega, by go_num, rfl, by rw [e]; exact hown1, ⟨by rw [List.length_append, List.length_singleton, HQL.out], fun z hz => ?_⟩, ownMat_within HKA5.out (lo' := rb) (hi' := W5.heap.size) ⟨hb1.os, hb1.tape, hb1.output, hb1.size, fun k hk hn => hb1.block k (by omega)⟩ (.inl (Nat.le_refl _)), ?_, by omega, mkSt_below HST5.out hb1 (by omega) hlt hbase HBE.out.symm hs2⟩
            · rcases List.mem_append.1 hz with hz | hz
              · exact HQR.out z hz
              · rw [List.mem_singleton.1 hz]; exact HP.out
            · rw [hb1.cell (p := ⟨gv, y, none⟩) (by have := HGV.out; show gv < rb; omega)]; exact HRA5.out
          case measure => simp [intOf]; omega
        · obtain rfl : x = C := by omega
          obtain ⟨vs, hv, hvh, hvr, hva⟩ := HKA.out
          rw [HKL.out] at hv
          have HV := hide hv; have HVR := hide hvr; have HVA := hide hva
          have hsw := HST.out.size
          clear hv hvh hvr hva
          go_wp2_with (at_builtin; refine wpList_push HV.out (.slice aq x cq) (.slice none 0 0) rfl _ _ rfl Try.underlying23 Try.infoInts rfl (by decide) rfl rfl rfl (by omega) (by omega) ?_; intro v' w6 hown1 hb1 hg1)
          go_roundw
          case rel =>
            have hs6 := hb1.size
            have hql := HQL.out
            have hkl := HKL.out
            have hp := ownMat_push (w := wr) (r := q) (hi := rb) (hi' := w6.heap.size) HVR.out HVA.out (by rw [hkl]; exact HV.out) (by rw [hql]; exact HO.out) (by omega) (by omega) (by omega) hg1 (by rw [hkl]; exact hown1) (fun q e => (hown1.lt q e).2)
            exact ⟨y + 1, k ++ [q], _, by omega, by go_num, rfl, hp, ⟨by rw [List.length_append, List.length_singleton, hkl], rowsM_push HRM.out ⟨hql, HQR.out⟩⟩, mkSt_below HST.out hb1 (Nat.le_refl _) hlt hbase HBE.out.symm hs2⟩
          case measure => simp [intOf]; omega
    · obtain rfl : y = R := by omega
      have HIN := hide (inMat_own HST.out.img)
      have HKI := hide (inMat_own HK.out)
      go_wp2_with fail
      refine (specRowSums_yes _ y C f _ HIN.out HIM.out).mono ?_
      rintro e w3 ⟨vr, rfl, ho3, hb3⟩
      have HO3 := hide ho3; have HB3 := hide hb3
      obtain ⟨ar, cr, rfl⟩ := own_slice ho3
      clear ho3 hb3
      go_wp2_with fail
      refine (specColSums_yes _ y C f _ (inMat_below HIN.out HB3.out) HIM.out).mono ?_
      rintro e w4 ⟨vc, rfl, ho4, hb4⟩
      have HO4 := hide (own_base ho4 (Nat.le_trans HST.out.below.size HB3.out.size)); have HB4 := hide (HB3.out.trans (hb4.mono HB3.out.size)); have HO3 := hide (own_base (own_below HO3.out hb4) HST.out.below.size)
      obtain ⟨ac, cc, rfl⟩ := own_slice ho4
      have HMB := hide (maskB_rows HRM.out (sumsOk_img HIM.out) (by rw [rows_len]; exact HKL.out) (rows_len _ _ _))
      have HKF := hide (inMat_below HKI.out HB4.out)
      have HBF := hide (HST.out.below.trans (HB4.out.mono HST.out.below.size))
      clear ho4 hb4
      go_wp2
      refine bodyPost_ret (results_tmp3 rfl _ _ _) rfl ?_
      exact ⟨_, _, _, k, _, _, rfl, HMB.out, HKF.out, HO3.out, HO4.out, HBF.out⟩
end Go.Proofs.Ytjgkblgilnfpfaa
/-
  Conflicts: what lists ask of a mask; where none do, an image meets it.
-/
namespace Go.Proofs.Ytjgkblgilnfpfaa
open Go.RowKit Mx

/-- An element of an ascending list of numbers below n. -/
def ascP (n : Int) (l : List Int) (t : Nat) : Bool := decide (0 ≤ l.getD t 0 ∧ l.getD t 0 < n) && (t == 0 || decide (l.getD (t - 1) 0 < l.getD t 0))
def ascB (n : Int) (l : List Int) : Bool := (List.range l.length).all (ascP n l)
theorem asc_yes {n : Int} {l : List Int} (h : ∀ t, t < l.length → ascP n l t = true) : ascB n l = true := by
  rw [ascB, List.all_eq_true]
  exact fun t ht => h t (List.mem_range.1 ht)
theorem asc_at {n : Int} {l : List Int} (h : ascB n l = true) {t : Nat} (ht : t < l.length) : ascP n l t = true := List.all_eq_true.1 h t (List.mem_range.2 ht)
theorem asc_no {n : Int} {l : List Int} {t : Nat} (ht : t < l.length) (h : ascP n l t = false) : ascB n l = false := by
  cases e : ascB n l with
  | false => rfl
  | true => have := asc_at e ht; rw [h] at this; cases this
/-- In an ascending list the elements lie in their range, and there are no more of them than numbers. -/
theorem asc_range {n : Int} {l : List Int} (h : ascB n l = true) {t : Nat} (ht : t < l.length) : (t : Int) ≤ l.getD t 0 ∧ l.getD t 0 < n := by
  induction t with
  | zero =>
    have := asc_at h ht
    simp only [ascP, Bool.and_eq_true, decide_eq_true_eq] at this
    exact ⟨by simpa using this.1.1, this.1.2⟩
  | succ t ih =>
    have h1 := ih (by omega)
    have := asc_at h ht
    simp only [ascP, Bool.and_eq_true, decide_eq_true_eq, Bool.or_eq_true, beq_iff_eq, Nat.add_sub_cancel] at this
    obtain ⟨h2, h3 | h3⟩ := this
    · omega
    · exact ⟨by omega, h2.2⟩
theorem asc_len {n : Int} {l : List Int} (hn : 0 ≤ n) (h : ascB n l = true) : (l.length : Int) ≤ n := by
  by_cases h0 : l.length = 0
  · omega
  · have := asc_range h (t := l.length - 1) (by omega)
    omega

/-- What stands at these numbers, together. -/
def totalL (s l : List Int) : Int := (l.map fun i => s.getD i.toNat 0).sum
theorem totalL_snoc (s l : List Int) (t : Nat) (h : t < l.length) : totalL s (l.take (t + 1)) = totalL s (l.take t) + s.getD l[t].toNat 0 := by
  unfold totalL
  rw [List.take_succ_eq_append_getElem h, List.map_append, List.sum_append]; simp
theorem totalL_range (s l : List Int) (hs : ∀ x ∈ s, 0 ≤ x ∧ x ≤ 5) : 0 ≤ totalL s l ∧ totalL s l ≤ 5 * l.length := by
  unfold totalL
  induction l with
  | nil => simp
  | cons i l ih =>
    rw [List.map_cons, List.sum_cons, List.length_cons]
    have : 0 ≤ s.getD i.toNat 0 ∧ s.getD i.toNat 0 ≤ 5 := by
      rw [List.getD_eq_getElem?_getD]
      cases e : s[i.toNat]? with
      | none => simp
      | some x => exact hs x (List.mem_of_getElem? e)
    omega
/-- What a cell of a mask gives. -/
def cellC (a d : Bool) (v : Int) : Int := (if a && !d && !(v == 0) then 1 else 0) + if !a && d && v == 1 then -1 else 0
theorem cellC_range (a d : Bool) (v : Int) : -1 ≤ cellC a d v ∧ cellC a d v ≤ 1 := by
  unfold cellC
  cases a <;> cases d <;> simp <;> split <;> omega
def hasB (l : List Int) (y : Nat) : Bool := l.any fun x => x == (y : Int)
/-- What the first x cells of row y give. -/
def roomR (k : List (List Int)) (l o : List Int) (y x : Nat) : Int := S x fun i => cellC (hasB l y) (hasB o i) ((k.getD y []).getD i 0)
/-- What the first y rows give. -/
def roomP (k : List (List Int)) (l o : List Int) (C y : Nat) : Int := S y fun i => roomR k l o i C
theorem roomR_range (k : List (List Int)) (l o : List Int) (y : Nat) : ∀ x : Nat, -(x : Int) ≤ roomR k l o y x ∧ roomR k l o y x ≤ x
  | 0 => by simp [roomR, S]
  | x + 1 => by
    have h1 := roomR_range k l o y x
    have h2 := cellC_range (hasB l y) (hasB o x) ((k.getD y []).getD x 0)
    unfold roomR at h1 ⊢
    rw [S]; omega
theorem roomP_range (k : List (List Int)) (l o : List Int) (C : Nat) (hC : C ≤ 5) : ∀ y : Nat, -(5 * y : Int) ≤ roomP k l o C y ∧ roomP k l o C y ≤ 5 * y
  | 0 => by simp [roomP, S]
  | y + 1 => by
    have h1 := roomP_range k l o C hC y
    have h2 := roomR_range k l o y C
    unfold roomP at h1 ⊢
    rw [S]; omega
def confB (k : List (List Int)) (r c l o : List Int) : Bool := decide (roomP k l o c.length r.length < totalL r l - totalL c o)
def hasConfB (k : List (List Int)) (r c l o : List Int) : Bool := maskB k r c && ascB r.length l && ascB c.length o && confB k r c l o

/-- What must be, what may be. -/
def loK (k : List (List Int)) (y x : Nat) : Int := if (k.getD y []).getD x 0 == 1 then 1 else 0
def hiK (k : List (List Int)) (y x : Nat) : Int := if (k.getD y []).getD x 0 == 0 then 0 else 1
theorem cellC_kc (a d : Bool) (k : List (List Int)) (y x : Nat) : cellC a d ((k.getD y []).getD x 0) = kc a d (hiK k y x) (loK k y x) := by
  unfold cellC kc hiK loK
  generalize (k.getD y []).getD x 0 = v
  cases a <;> cases d <;> cases h0 : (v == 0) <;> cases h1 : (v == 1) <;> simp
theorem room_over (k : List (List Int)) (r c l o : List Int) (hl : ascB r.length l = true) (ho : ascB c.length o = true) :
    totalL r l - totalL c o - roomP k l o c.length r.length = over r.length c.length (fun y => r.getD y 0) (fun x => c.getD x 0) (loK k) (hiK k) (hasB l) (hasB o) := by
  unfold over
  rw [total_on r l hl, total_on c o ho]
  congr 1
  exact S_congr _ fun y _ => S_congr _ fun x _ => cellC_kc _ _ _ _ _
where
  total_on (s l : List Int) (h : ascB s.length l = true) : totalL s l = S s.length (on (hasB l) fun y => s.getD y 0) := by
    have hin : ∀ (m : List Int), (∀ i, (hi : i < m.length) → 0 ≤ m[i] ∧ m[i] < s.length) → (∀ i j, (hi : i < m.length) → (hj : j < m.length) → i < j → m[i] < m[j]) → totalL s m = S s.length (on (hasB m) fun y => s.getD y 0) := by
      intro m
      induction m with
      | nil =>
        intro _ _
        rw [S_congr _ (g := fun _ => 0) (fun i _ => by simp [on, hasB]), S_zero]
        rfl
      | cons a m ih =>
        intro h1 h2
        have ha := h1 0 (by simp)
        simp only [List.getElem_cons_zero] at ha
        have ih' := ih (fun i hi => h1 (i + 1) (by simpa using hi)) (fun i j hi hj hij => h2 (i + 1) (j + 1) (by simpa using hi) (by simpa using hj) (by omega))
        have hna : hasB m a.toNat = false := by
          unfold hasB
          rw [List.any_eq_false]
          intro x hx
          obtain ⟨i, hi, rfl⟩ := List.getElem_of_mem hx
          have := h2 0 (i + 1) (by simp) (by simpa using hi) (by omega)
          simp only [List.getElem_cons_zero, List.getElem_cons_succ] at this
          simp; omega
        have e : totalL s (a :: m) = s.getD a.toNat 0 + totalL s m := by simp [totalL]
        rw [e, ih', ← S_pick (show a.toNat < s.length by omega) (s.getD a.toNat 0), ← S_add]
        refine S_congr _ fun i _ => ?_
        unfold on
        have hh : hasB (a :: m) i = (a == (i : Int) || hasB m i) := by simp [hasB]
        by_cases e1 : i = a.toNat
        · subst e1
          rw [if_pos rfl, hna, hh, show (a == ((a.toNat : Nat) : Int)) = true from beq_iff_eq.2 (by omega)]; simp
        · rw [if_neg e1, hh, show (a == (i : Int)) = false from beq_eq_false_iff_ne.2 (by omega)]; simp
    refine hin l (fun i hi => ?_) (fun i j hi hj hij => ?_)
    · have := asc_range h hi
      rw [List.getD_eq_getElem?_getD, List.getElem?_eq_getElem hi, Option.getD_some] at this
      omega
    · induction j with
      | zero => omega
      | succ j ih =>
        have := asc_at h hj
        simp only [ascP, Bool.and_eq_true, decide_eq_true_eq, Bool.or_eq_true, beq_iff_eq, Nat.add_sub_cancel] at this
        have h3 : l[j] < l[j + 1] := by
          have h4 := this.2.resolve_left (by omega)
          rw [List.getD_eq_getElem?_getD, List.getElem?_eq_getElem (by omega), Option.getD_some, List.getD_eq_getElem?_getD, List.getElem?_eq_getElem hj, Option.getD_some] at h4
          exact h4
        by_cases e : i = j
        · subst e; exact h3
        · have := ih (by omega) (by omega); omega

theorem mask_parts {k : List (List Int)} {r c : List Int} (h : maskB k r c = true) : sumsOk r c = true ∧ k.length = r.length ∧ ∀ y, y < r.length → (k.getD y []).length = c.length ∧ ∀ x, x < c.length → (k.getD y []).getD x 0 = -1 ∨ (k.getD y []).getD x 0 = 0 ∨ (k.getD y []).getD x 0 = 1 := by
  unfold maskB at h
  simp only [Bool.and_eq_true, beq_iff_eq] at h
  refine ⟨h.1.1, h.1.2, fun y hy => ?_⟩
  have hyk : y < k.length := by rw [h.1.2]; exact hy
  have := List.all_eq_true.1 h.2 _ (List.getElem_mem hyk)
  unfold maskRowB at this
  simp only [Bool.and_eq_true, beq_iff_eq] at this
  rw [List.getD_eq_getElem?_getD, List.getElem?_eq_getElem hyk, Option.getD_some]
  refine ⟨this.1, fun x hx => ?_⟩
  have hxk : x < k[y].length := by rw [this.1]; exact hx
  have := List.all_eq_true.1 this.2 _ (List.getElem_mem hxk)
  rw [List.getD_eq_getElem?_getD, List.getElem?_eq_getElem hxk, Option.getD_some]
  unfold cellOk at this
  simpa using this
/-- There is an image that meets the mask exactly if no rows and columns ask for too much. -/
theorem masked_iff {k : List (List Int)} {r c : List Int} (h : maskB k r c = true) : maskedL k r c ≠ [] ↔ ∀ L O : Nat → Bool, over r.length c.length (fun y => r.getD y 0) (fun x => c.getD x 0) (loK k) (hiK k) L O ≤ 0 := by
  obtain ⟨hs, hkl, hk⟩ := mask_parts h
  obtain ⟨hr, hc, -, -, hsum⟩ := sumsOk_yes hs
  have ht : (S r.length fun y => r.getD y 0) = S c.length fun x => c.getD x 0 := by rw [← sum_S, ← sum_S]; exact hsum
  have hbox : ∀ y x, y < r.length → x < c.length → (loK k y x = 0 ∨ loK k y x = 1) ∧ (hiK k y x = 0 ∨ hiK k y x = 1) ∧ loK k y x ≤ hiK k y x := fun y x hy hx => by
    unfold loK hiK
    rcases (hk y hy).2 x hx with e | e | e <;> rw [e] <;> simp
  constructor
  · intro hne L O
    obtain ⟨m, hm⟩ := List.exists_mem_of_ne_nil _ hne
    obtain ⟨hm1, hm2⟩ := List.mem_filter.1 hm
    rw [allIm_sums hs] at hm1
    have hI : HasImg r c := by
      cases he : existsOf r c with
      | true => exact img_of_exists he
      | false => rw [allL_none hs he] at hm1; cases hm1
    obtain ⟨g1, g2, g3⟩ := all_sound r c hr.2 hc hI m hm1
    have hcell : ∀ y x, y < r.length → x < c.length → loK k y x ≤ (m.getD y []).getD x 0 ∧ (m.getD y []).getD x 0 ≤ hiK k y x := fun y x hy hx => by
      have hym : y < m.length := by omega
      have hyk : y < k.length := by omega
      have h1 : meetR m[y] k[y] = true := eqBy_at y hym hyk hm2
      have hxm : x < m[y].length := by rw [g2 _ (List.getElem_mem hym)]; exact hx
      have hxk : x < k[y].length := by rw [← eqBy_len h1]; exact hxm
      have h2 : meetC m[y][x] k[y][x] = true := eqBy_at x hxm hxk h1
      have h3 := g3.cell y x hy hx
      have e1 : (m.getD y []).getD x 0 = m[y][x] := by simp [List.getD_eq_getElem?_getD, hym, hxm]
      have e2 : (k.getD y []).getD x 0 = k[y][x] := by simp [List.getD_eq_getElem?_getD, hyk, hxk]
      have h4 := (hk y hy).2 x hx
      rw [e1] at h3 ⊢
      rw [e2] at h4
      unfold loK hiK
      rw [e2]
      unfold meetC at h2
      simp only [Bool.or_eq_true, beq_iff_eq] at h2
      rcases h4 with e | e | e <;> rw [e] at h2 ⊢ <;> simp <;> omega
    exact over_img (fun y => r.getD y 0) (fun x => c.getD x 0) (loK k) (hiK k) (fun y x => (m.getD y []).getD x 0) (fun y x hy hx => ⟨hcell y x hy hx, g3.cell y x hy hx⟩) g3.row g3.col L O
  · intro hov
    obtain ⟨m, h1, h2, h3⟩ := exists_between r.length c.length (fun y => r.getD y 0) (fun x => c.getD x 0) ht _ (loK k) (hiK k) (Nat.le_refl _) hbox hov
    have hI : ImgF r c m := ⟨fun y x hy hx => by
      have := h1 y x hy hx
      have := hbox y x hy hx
      omega, h2, h3⟩
    have hmem := all_complete r c hr.2 hc m hI
    refine List.ne_nil_of_mem (a := listF r.length c.length m) (List.mem_filter.2 ⟨by rw [allIm_sums hs]; exact hmem, eqBy_yes (by simp [listF, hkl]) fun y hy hyk => ?_⟩)
    have hy' : y < r.length := by omega
    have e : (listF r.length c.length m)[y] = tabL c.length (m y) := by simp [listF]
    rw [e]
    have hkr := (hk y hy').1
    rw [List.getD_eq_getElem?_getD, List.getElem?_eq_getElem hyk, Option.getD_some] at hkr
    refine eqBy_yes (by rw [tabL_len, hkr]) fun x hx hxk => ?_
    rw [tabL_len] at hx
    rw [tabL_at]
    have h5 := h1 y x hy' hx
    have h6 := (hk y hy').2 x hx
    have e2 : (k.getD y []).getD x 0 = k[y][x] := by simp [List.getD_eq_getElem?_getD, hyk, hxk]
    unfold loK hiK at h5
    rw [e2] at h5 h6
    unfold meetC
    rcases h6 with e | e | e <;> rw [e] at h5 ⊢ <;> simp at h5 ⊢ <;> omega
where
  over_img {R C : Nat} (r c : Nat → Int) (lo hi m : Nat → Nat → Int) (hm : ∀ y x, y < R → x < C → (lo y x ≤ m y x ∧ m y x ≤ hi y x) ∧ (m y x = 0 ∨ m y x = 1)) (hrow : ∀ y, y < R → S C (m y) = r y) (hcol : ∀ x, x < C → S R (fun y => m y x) = c x) (L O : Nat → Bool) : over R C r c lo hi L O ≤ 0 := by
    have e1 : S R (on L r) = S R fun y => S C fun x => if L y then m y x else 0 := S_congr R fun y hy => by
      unfold on
      cases L y with
      | true => simp only [if_true]; rw [← hrow y hy]
      | false => simp [S_zero]
    have e2 : S C (on O c) = S R fun y => S C fun x => if O x then m y x else 0 := by
      rw [S_swap]
      refine S_congr C fun x hx => ?_
      unfold on
      cases O x with
      | true => simp only [if_true]; rw [← hcol x hx]
      | false => simp [S_zero]
    unfold over
    rw [e1, e2, ← S_sub, ← S_sub]
    have := S_le (f := fun y => (S C fun x => if L y then m y x else 0) - (S C fun x => if O x then m y x else 0) - S C fun x => kc (L y) (O x) (hi y x) (lo y x)) (g := fun _ => 0) R (fun y hy => by
      rw [← S_sub, ← S_sub]
      have := S_le (f := fun x => (if L y then m y x else 0) - (if O x then m y x else 0) - kc (L y) (O x) (hi y x) (lo y x)) (g := fun _ => 0) C (fun x hx => by
        have := hm y x hy hx
        unfold kc
        cases L y <;> cases O x <;> simp <;> omega)
      rwa [S_zero] at this)
    rwa [S_zero] at this
end Go.Proofs.Ytjgkblgilnfpfaa
/-
  Masks: MaskOk and MeetsMask, of the program and of the model.
-/
namespace Go.Proofs.Ytjgkblgilnfpfaa
open Go.RowKit Go.Shelf

theorem cellMeets_any (x k : Int) (w : World) :
    Calls Try.prog 98 #[.int .i64 x, .int .i64 k] w fun e w' => e = .returned (.bool (meetC x k)) ∧ w = w' := by
  by_cases h1 : k = -1
  · subst h1
    go_enter Try.func98, Try.ntmps98
    go_wp2
    go_ret
    exact ⟨rfl, rfl⟩
  · have h0 : (k == -1) = false := by simp [h1]
    have HM : Hid (meetC x k = (k == x)) := hide (by unfold meetC; rw [h0]; rfl)
    clear h1
    go_enter Try.func98, Try.ntmps98
    go_wp2
    go_ret
    exact ⟨ret_bool HM.out.symm, rfl⟩
theorem maskCellOk_any (x : Int) (w : World) :
    Calls Try.prog 81 #[.int .i64 x] w fun e w' => e = .returned (.bool (x == -1 || cellOk x)) ∧ w = w' := by
  by_cases h1 : x = -1
  · subst h1
    go_enter Try.func81, Try.ntmps81
    go_wp2
    go_ret
    exact ⟨rfl, rfl⟩
  · have h0 : (x == -1) = false := by simp [h1]
    rw [h0]
    have HC := hide fun w' => colorOk_any x w'
    obtain ⟨b, hb⟩ : ∃ b, b = cellOk x := ⟨_, rfl⟩
    rw [← hb] at HC ⊢
    clear h1 hb
    go_enter Try.func81, Try.ntmps81
    go_wp2_with (go_at_call 96; refine (HC.out _).mono ?_; rintro e w' ⟨rfl, rfl⟩)
    go_ret
    exact ⟨rfl, rfl⟩
theorem maskRowOk1_any (x : Int) (w : World) :
    Calls Try.prog 80 #[.int .i64 x] w fun e w' => e = .returned (.bool (!(x == -1 || cellOk x))) ∧ w = w' := by
  have HC := hide fun w' => maskCellOk_any x w'
  obtain ⟨b, hb⟩ : ∃ b, b = (x == -1 || cellOk x) := ⟨_, rfl⟩
  rw [← hb] at HC ⊢
  clear hb
  go_enter Try.func80, Try.ntmps80
  go_wp2_with (go_at_call 81; refine (HC.out _).mono ?_; rintro e w' ⟨rfl, rfl⟩)
  go_ret
  exact ⟨rfl, rfl⟩

/-- What a function value answers of an integer, reading nothing. -/
def IntPred (g : Nat) (cb : Array Value) (p : Int → Bool) : Prop := ∀ (x : Int) (w : World), Calls Try.prog g (#[.int .i64 x] ++ cb) w fun e w' => e = .returned (.bool (p x)) ∧ w = w'
set_option maxHeartbeats 1000000 in
theorem idxInts_any (v : Value) (r : List Int) (g : Nat) (cb : Array Value) (p : Int → Bool) (w : World) (eg : ∀ args w, (callFunc g args).run Try.prog w = .ok (.enter g args) w) (hin : InRow w v r) (hp : IntPred g cb p) :
    Calls Try.prog 106 #[v, .func (.func g) #[] cb] w (IdxRes (r.any p) w) := by
  have HP := hide hp
  clear hp
  obtain ⟨a, c, rfl, hm, hp⟩ := hin
  unfold maxLen at hm
  by_cases h0 : r.length = 0
  · have hr : r = [] := List.eq_nil_of_length_eq_zero h0
    subst hr
    clear hp h0 hm
    go_enter Try.func106, Try.ntmps106
    go_wp2
    go_loop [8] (fun i => i = .int .i64 0) (fun _ => 0)
    case atStart => rfl
    case round =>
      obtain rfl := hrel
      go_wp2
      go_ret
      exact ⟨-1, rfl, by omega, rfl, rfl⟩
  · obtain ⟨gr, o, rfl, hg, hc⟩ := hp.resolve_left h0
    have HC := hide hc
    obtain ⟨n, hn⟩ : ∃ n, n = r.length := ⟨_, rfl⟩
    have HN := hide hn
    rw [← hn] at hm ⊢
    clear hp hc h0 hn
    go_enter Try.func106, Try.ntmps106
    go_wp2
    go_loop [8] (fun i => ∃ k : Nat, k ≤ n ∧ i = .int .i64 k ∧ ∀ t, (h : t < r.length) → t < k → p r[t] = false) (fun i => n - (intOf i).toNat)
    case atStart => exact ⟨0, Nat.zero_le _, rfl, fun t _ h => absurd h (Nat.not_lt_zero _)⟩
    case round =>
      obtain ⟨k, hk, rfl, hall⟩ := hrel
      have HA := hide hall
      clear hall
      by_cases hlt : k < n
      · have hk' : k < r.length := by rw [← HN.out]; exact hlt
        have hx := HC.out k hk'
        have HNO := hide (fun h => any_yes (p := p) k hk' h)
        have HST : Hid (p r[k] = false → ∀ t, (h : t < r.length) → t < k + 1 → p r[t] = false) := hide fun h t h1 ht => by
          by_cases e : t = k
          · subst e; exact h
          · exact HA.out t h1 (by omega)
        obtain ⟨x, hxx⟩ : ∃ x, x = r[k] := ⟨_, rfl⟩
        rw [← hxx] at hx HNO HST
        clear hxx
        have HCALL := hide (fun w' => HP.out x w')
        obtain ⟨q, hq⟩ : ∃ q, q = p x := ⟨_, rfl⟩
        rw [← hq] at HCALL HNO HST
        clear hq
        cases q with
        | true =>
          have HF := hide (HNO.out rfl)
          clear HNO HST
          go_wp2_with (go_at_fn g; refine (HCALL.out _).mono ?_; rintro e w9 ⟨rfl, rfl⟩)
          go_ret
          exact ⟨k, rfl, by omega, by rw [HF.out]; simp, rfl⟩
        | false =>
          have HS2 := hide (HST.out rfl)
          clear HNO HST
          go_wp2_with (go_at_fn g; refine (HCALL.out _).mono ?_; rintro e w9 ⟨rfl, rfl⟩)
          go_round
          case rel => exact ⟨k + 1, by omega, by go_num, HS2.out⟩
          case measure => simp [intOf]; omega
      · have HY := hide (any_no (p := p) fun t h => HA.out t h (by have := HN.out; omega))
        go_wp2
        go_ret
        exact ⟨-1, rfl, by omega, by rw [HY.out]; rfl, rfl⟩
theorem containsInts_any (v : Value) (r : List Int) (g : Nat) (cb : Array Value) (p : Int → Bool) (w : World) (eg : ∀ args w, (callFunc g args).run Try.prog w = .ok (.enter g args) w) (hin : InRow w v r) (hp : IntPred g cb p) :
    Calls Try.prog 79 #[v, .func (.func g) #[] cb] w fun e w' => e = .returned (.bool (r.any p)) ∧ w = w' := by
  have HI := hide (idxInts_any v r g cb p w eg hin hp)
  clear hin hp eg
  go_enter Try.func79, Try.ntmps79
  go_wp2_with fail
  refine HI.out.mono ?_
  rintro e w1 ⟨i, rfl, hi, hb, rfl⟩
  have HB := hide hb
  clear hb HI
  by_cases h : 0 ≤ i
  · go_wp2
    go_ret
    exact ⟨ret_bool (by rw [HB.out]; simp [h]), rfl⟩
  · go_wp2
    go_ret
    exact ⟨ret_bool (by rw [HB.out]), rfl⟩
theorem any_not {α : Type} (p : α → Bool) (r : List α) : (!r.any fun x => !p x) = r.all p := by
  induction r with
  | nil => rfl
  | cons x r ih => rw [List.any_cons, List.all_cons, ← ih]; cases p x <;> simp
theorem maskRowOk_any (v : Value) (r : List Int) (C : Nat) (w : World) (hin : InRow w v r) :
    Calls Try.prog 46 #[v, .int .i64 C] w fun e w' => e = .returned (.bool (maskRowB C r)) ∧ w = w' := by
  have HI := hide hin
  obtain ⟨a, c, rfl, -, -⟩ := hin
  have HC := hide (containsInts_any _ r 80 #[] (fun x => !(x == -1 || cellOk x)) w (enters_of Try.func80 (by kernel_rfl) rfl) HI.out (fun x w' => maskRowOk1_any x w'))
  have HM : Hid (maskRowB C r = (r.length == C && !r.any fun x => !(x == -1 || cellOk x))) := hide (by rw [any_not]; rfl)
  clear HI
  rw [HM.out]
  obtain ⟨b, hb⟩ : ∃ b, b = r.any fun x => !(x == -1 || cellOk x) := ⟨_, rfl⟩
  rw [← hb] at HC ⊢
  obtain ⟨n, hn⟩ : ∃ n, n = r.length := ⟨_, rfl⟩
  rw [← hn] at HC ⊢
  clear hb HM hn
  by_cases h : n = C
  · subst h
    rw [show (n == n) = true from beq_self_eq_true n]
    go_enter Try.func46, Try.ntmps46
    go_wp2_with (go_at_call 79; refine HC.out.mono ?_; rintro e w' ⟨rfl, rfl⟩)
    go_ret
    exact ⟨rfl, rfl⟩
  · have hne : ((n : Int) == (C : Int)) = false := by simp; omega
    rw [show (n == C) = false from beq_eq_false_iff_ne.2 h]
    go_enter Try.func46, Try.ntmps46
    go_wp2
    go_ret
    exact ⟨rfl, rfl⟩
theorem maskOk1_any (u vc : Value) (row c : List Int) (q : Nat) (w : World) (hu : InRow w u row) (hc : InRow w vc c) (hq : w.cell? ⟨q, 0, none⟩ = some vc) :
    Calls Try.prog 45 #[u, .pointer (some ⟨q, 0, none⟩)] w fun e w' => e = .returned (.bool (!maskRowB c.length row)) ∧ Below w.heap.size w w' := by
  have HC := hide (maskRowOk_any u row c.length w hu)
  obtain ⟨b, hb⟩ : ∃ b, b = maskRowB c.length row := ⟨_, rfl⟩
  rw [← hb] at HC ⊢
  obtain ⟨au, cu, rfl, -, -⟩ := hu
  obtain ⟨ac, cc, rfl, hm, -⟩ := hc
  unfold maxLen at hm
  generalize c.length = C at *
  generalize row.length = R at *
  clear hb
  go_enter Try.func45, Try.ntmps45
  go_wp2_with (go_at_call 46; refine HC.out.mono ?_; rintro e w' ⟨rfl, rfl⟩)
  go_ret
  exact ⟨rfl, Below.refl _ _⟩
set_option maxHeartbeats 1000000 in
theorem implMaskOk_any (vk va vb : Value) (k : List (List Int)) (r c : List Int) (w : World) (hk : InMat w vk k) (ha : InRow w va r) (hb : InRow w vb c) :
    Calls Try.prog 12 #[vk, va, vb] w fun e w' => e = .returned (.bool (maskB k r c)) ∧ Below w.heap.size w w' := by
  have hbx := (Below.refl w.heap.size w).alloc (Nat.le_refl _) (.cells #[vb] 24)
  have HBX := hide hbx
  have HQ := hide (show (w.alloc (.cells #[vb] 24)).cell? ⟨w.heap.size, 0, none⟩ = some vb by simp [World.cell?_alloc_new])
  have HS := hide (implSumsOk_any va vb r c _ (inRow_below ha hbx) (inRow_below hb hbx))
  have HK := hide (inMat_below hk hbx); have HB := hide (inRow_below hb hbx)
  have HM : Hid (maskB k r c = (sumsOk r c && k.length == r.length && !k.any fun q => !maskRowB c.length q)) := hide (by rw [any_not]; rfl)
  have HCN := hide fun w' (h : Below (w.alloc (.cells #[vb] 24)).heap.size (w.alloc (.cells #[vb] 24)) w') => containsRows_any vk k 45 #[.pointer (some ⟨w.heap.size, 0, none⟩)] (fun _ => True) (fun q => !maskRowB c.length q) w' (enters_of Try.func45 (by kernel_rfl) rfl) (inMat_below HK.out h) (fun _ _ => trivial)
    (fun row u w2 _ h2 hu => maskOk1_any u vb row c w.heap.size w2 hu (inRow_below (inRow_below HB.out h) h2) (by rw [below_cell (h.trans (h2.mono h.size)) (by simp) HQ.out]))
  rw [HM.out]
  obtain ⟨b, hbb⟩ : ∃ b, b = k.any fun q => !maskRowB c.length q := ⟨_, rfl⟩
  rw [← hbb] at HCN ⊢
  obtain ⟨s, hs⟩ : ∃ s, s = sumsOk r c := ⟨_, rfl⟩
  rw [← hs] at HS ⊢
  obtain ⟨ak, ck, rfl, -, -⟩ := hk
  obtain ⟨aa, ca, rfl, -, -⟩ := ha
  obtain ⟨ab, cb, rfl, -, -⟩ := hb
  clear hbb hs hbx HM HK HB
  generalize c.length = C at *
  obtain ⟨R, hR⟩ : ∃ R, R = r.length := ⟨_, rfl⟩
  obtain ⟨K, hK⟩ : ∃ K, K = k.length := ⟨_, rfl⟩
  rw [← hR] at HS ⊢
  rw [← hK] at HCN ⊢
  clear hR hK
  cases s with
  | false =>
    go_enter Try.func12, Try.ntmps12
    go_wp2_with (go_at_call 43; refine HS.out.mono ?_; rintro e w1 ⟨rfl, b1⟩; have B1 := hide b1; clear b1)
    go_ret
    exact ⟨rfl, HBX.out.trans (B1.out.mono HBX.out.size)⟩
  | true =>
    by_cases h : K = R
    · subst h
      go_enter Try.func12, Try.ntmps12
      go_wp2_with (first | (go_at_call 43; refine HS.out.mono ?_; rintro e w1 ⟨rfl, b1⟩; have B1 := hide b1; clear b1) | (go_at_call 44; refine (HCN.out _ B1.out).mono ?_; rintro e w2 ⟨rfl, b2⟩; have B2 := hide b2; clear b2))
      go_ret
      exact ⟨ret_bool (by simp), HBX.out.trans ((B1.out.trans (B2.out.mono B1.out.size)).mono HBX.out.size)⟩
    · have hne : ((K : Int) == (R : Int)) = false := by simp; omega
      rw [show (K == R) = false from beq_eq_false_iff_ne.2 h]
      go_enter Try.func12, Try.ntmps12
      go_wp2_with (go_at_call 43; refine HS.out.mono ?_; rintro e w1 ⟨rfl, b1⟩; have B1 := hide b1; clear b1)
      go_ret
      exact ⟨rfl, HBX.out.trans (B1.out.mono HBX.out.size)⟩

set_option maxHeartbeats 1000000 in
theorem rowMeetsF_any (va vb : Value) (m l : List Int) (w : World) (ha : InRow w va m) (hb : InRow w vb l) :
    Calls Try.prog 97 #[va, vb, .func (.func 98) #[] #[]] w fun e w' => e = .returned (.bool (meetR m l)) ∧ w = w' := by
  obtain ⟨a, ca, rfl, hma, hpa⟩ := ha
  obtain ⟨b, cb, rfl, hmb, hpb⟩ := hb
  unfold maxLen at hma hmb
  by_cases hlen : m.length = l.length
  · by_cases h0 : m.length = 0
    · have hr : m = [] := List.eq_nil_of_length_eq_zero h0
      have hs : l = [] := List.eq_nil_of_length_eq_zero (by omega)
      subst hr; subst hs
      clear hpa hpb hma hmb hlen h0
      go_enter Try.func97, Try.ntmps97
      go_wp2
      go_loop [17] (fun i => i = .int .i64 0) (fun _ => 0)
      case atStart => rfl
      case round =>
        obtain rfl := hrel
        go_wp2
        go_ret
        exact ⟨rfl, rfl⟩
    · obtain ⟨ga, oa, rfl, hga, hca⟩ := hpa.resolve_left h0
      obtain ⟨gb, ob, rfl, hgb, hcb⟩ := hpb.resolve_left (by omega)
      have HA := hide hca; have HB := hide hcb; have HL := hide hlen
      obtain ⟨n, hn⟩ : ∃ n, n = m.length := ⟨_, rfl⟩
      have HN := hide hn
      have HM : Hid (l.length = n) := hide (by omega)
      rw [← hlen, ← hn]
      rw [← hn] at hma
      clear hpa hpb hca hcb h0 hmb hlen hn
      go_enter Try.func97, Try.ntmps97
      go_wp2
      go_loop [17] (fun i => ∃ k : Nat, k ≤ n ∧ i = .int .i64 k ∧ (∀ t, (h1 : t < m.length) → (h2 : t < l.length) → t < k → meetC m[t] l[t] = true)) (fun i => n - (intOf i).toNat)
      case atStart => exact ⟨0, Nat.zero_le _, rfl, fun t _ _ h => absurd h (Nat.not_lt_zero _)⟩
      case round =>
        obtain ⟨k, hk, rfl, hall⟩ := hrel
        have HH := hide hall
        clear hall
        by_cases hlt : k < n
        · have hkr : k < m.length := by rw [← HN.out]; exact hlt
          have hks : k < l.length := by rw [HM.out]; exact hlt
          have hxa := HA.out k hkr
          have hxb := HB.out k hks
          have HNO := hide (fun h => eqBy_no2 (p := meetC) k hkr hks h)
          have HST : Hid (meetC m[k] l[k] = true → ∀ t, (h1 : t < m.length) → (h2 : t < l.length) → t < k + 1 → meetC m[t] l[t] = true) := hide fun h t h1 h2 ht => by
            by_cases e : t = k
            · subst e; exact h
            · exact HH.out t h1 h2 (by omega)
          obtain ⟨x, hx⟩ : ∃ x, x = m[k] := ⟨_, rfl⟩
          obtain ⟨y, hy⟩ : ∃ y, y = l[k] := ⟨_, rfl⟩
          rw [← hx] at hxa HNO HST
          rw [← hy] at hxb HNO HST
          have HCALL := hide fun w' => cellMeets_any x y w'
          obtain ⟨q, hq⟩ : ∃ q, q = meetC x y := ⟨_, rfl⟩
          rw [← hq] at HCALL HNO HST
          clear hq hx hy
          cases q with
          | true =>
            have HS2 := hide (HST.out rfl)
            clear HNO HST
            go_wp2_with (go_at_call 98; refine (HCALL.out _).mono ?_; rintro e w9 ⟨rfl, rfl⟩)
            go_round
            case rel => exact ⟨k + 1, by omega, by go_num, HS2.out⟩
            case measure => simp [intOf]; omega
          | false =>
            have HF := hide (HNO.out rfl)
            clear HNO HST
            go_wp2_with (go_at_call 98; refine (HCALL.out _).mono ?_; rintro e w9 ⟨rfl, rfl⟩)
            go_ret
            exact ⟨ret_bool HF.out.symm, rfl⟩
        · have HY := hide (eqBy_yes (p := meetC) HL.out fun t h1 h2 => HH.out t h1 h2 (by have := HN.out; omega))
          go_wp2
          go_ret
          exact ⟨ret_bool HY.out.symm, rfl⟩
  · have HF := hide (eqBy_no1 (p := meetC) hlen)
    obtain ⟨n, hn⟩ : ∃ n, n = m.length := ⟨_, rfl⟩
    obtain ⟨k, hk⟩ : ∃ k, k = l.length := ⟨_, rfl⟩
    rw [← hn, ← hk] at hlen ⊢
    rw [← hn] at hma
    rw [← hk] at hmb
    have hne2 : ((n : Int) != (k : Int)) = true := by simp; omega
    clear hpa hpb hn hk hlen
    go_enter Try.func97, Try.ntmps97
    go_wp2
    go_ret
    exact ⟨ret_bool HF.out.symm, rfl⟩
theorem rowMeets_any (va vb : Value) (m l : List Int) (w : World) (ha : InRow w va m) (hb : InRow w vb l) :
    Calls Try.prog 64 #[va, vb] w fun e w' => e = .returned (.bool (meetR m l)) ∧ w = w' := by
  have HF := hide (rowMeetsF_any va vb m l w ha hb)
  obtain ⟨aa, ca, rfl, -, -⟩ := ha
  obtain ⟨ab, cb, rfl, -, -⟩ := hb
  generalize m.length = M at *
  generalize l.length = L at *
  go_enter Try.func64, Try.ntmps64
  go_wp2_with (go_at_call 97; refine HF.out.mono ?_; rintro e w' ⟨rfl, rfl⟩)
  go_ret
  exact ⟨rfl, rfl⟩
end Go.Proofs.Ytjgkblgilnfpfaa
