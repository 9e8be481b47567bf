/-
  Texts of this claim, one behind the other: HeavP, SameI, MskP, IntF, HcP, RevP, AllNe, LrP, RevC.
-/
import Derived.Test.YtjnnoabaepmcnaaGreatPackK
import Derived.Test.YtjnnoabaepmcnaaGreatPackG
import Derived.Test.YtjnnoabaepmcnaaGreatPackM
import Derived.Laws.BitsLemmas
import Derived.Test.YtjnnoabaepmcnaaGreatPackJ
/-
  The heaviest and the nearest image, pure; the model's search for the first of the greatest.
-/
namespace Go.Proofs.YtjnnoabaepmcnaaGreat
open Go.RowKit Go.Shelf

theorem allL_mk {r c : List Int} (h : existsOf r c = true) {m : List (List Int)} (hm : m ∈ allL r c) : m = mkM r.length c.length (cellM m) ∧ Img r.length c.length (cellM m) ∧ ImgF r c (cellM m) := by
  obtain ⟨hr5, hc5, -⟩ := sumsOk_yes (existsOf_sums h)
  obtain ⟨h1, h2, h3⟩ := all_sound r c hr5.2 hc5 (img_of_exists h) m hm
  refine ⟨?_, ⟨hr5.1, hr5.2, hc5.1, hc5.2, fun y x hy hx => h3.cell y x hy hx⟩, h3⟩
  refine List.ext_getElem (by rw [mkM_len, h1]) fun i hi1 hi2 => ?_
  rw [mkM_at]
  refine List.ext_getElem (by rw [rowF_len, h2 _ (List.getElem_mem hi1)]) fun j hj1 hj2 => ?_
  rw [rowF_at]
  simp [cellM, List.getD_eq_getElem?_getD, hi1, hj1]
theorem allL_ne {r c : List Int} (h : existsOf r c = true) : allL r c ≠ [] := by
  obtain ⟨hr5, hc5, -⟩ := sumsOk_yes (existsOf_sums h)
  obtain ⟨l, hl⟩ := all_first r c hr5.2 hc5 (img_of_exists h)
  rw [hl]; simp
/-- The first of the greatest value, and this value; nothing where the arguments are refused. -/
def pickP (vf : List (List Int) → Int) (r c : List Int) (ok : Bool) : List (List Int) × Int := if ok then (bestF vf (allL r c)).getD ([], 0) else ([], 0)
def heavB (r c : List Int) (k : List (List Int)) : Bool := existsOf r c && wtB k r.length c.length
def heavF (r c : List Int) (k m : List (List Int)) : Int := wtS r.length c.length (cellM k) (cellM m)
def heavP (r c : List Int) (k : List (List Int)) : List (List Int) × Int := pickP (heavF r c k) r c (heavB r c k)
theorem heavF_range {r c : List Int} {k : List (List Int)} (h : existsOf r c = true) (hw : Wt r.length c.length (cellM k)) {m : List (List Int)} (hm : m ∈ allL r c) : -2500 ≤ heavF r c k m ∧ heavF r c k m ≤ 2500 :=
  wt_all hw (allL_mk h hm).2.1 (Nat.le_refl _)
/-- While the model looks for it: the place of the best so far. -/
def PickSt (us : List Value) (L : List (List (List Int))) (vf : List (List Int) → Int) (k : Nat) (v : Value) (n : Int) : Prop :=
  ∃ j m, j < k ∧ bestF vf (L.take k) = some (m, n) ∧ L[j]? = some m ∧ v = us.getD j undef
theorem pick_first {us : List Value} {L : List (List (List Int))} {vf : List (List Int) → Int} (h : 0 < L.length) : PickSt us L vf 1 (us.getD 0 undef) (vf L[0]) := by
  refine ⟨0, L[0], by omega, ?_, List.getElem?_eq_getElem h, rfl⟩
  have : L.take 1 = [] ++ [L[0]] := by
    cases L with
    | nil => simp at h
    | cons a l => rfl
  rw [this, bestF_snoc]; rfl
theorem pick_more {us : List Value} {L : List (List (List Int))} {vf : List (List Int) → Int} {k : Nat} {v : Value} {n : Int} (h : PickSt us L vf k v n) (hk : k < L.length) (hv : n < vf L[k]) : PickSt us L vf (k + 1) (us.getD k undef) (vf L[k]) := by
  obtain ⟨j, m, h1, h2, h3, -⟩ := h
  refine ⟨k, L[k], by omega, ?_, List.getElem?_eq_getElem hk, rfl⟩
  rw [List.take_succ_eq_append_getElem hk, bestF_snoc, h2]
  exact bestS_more hv
theorem pick_less {us : List Value} {L : List (List (List Int))} {vf : List (List Int) → Int} {k : Nat} {v : Value} {n : Int} (h : PickSt us L vf k v n) (hk : k < L.length) (hv : ¬ n < vf L[k]) : PickSt us L vf (k + 1) v n := by
  obtain ⟨j, m, h1, h2, h3, h4⟩ := h
  refine ⟨j, m, by omega, ?_, h3, h4⟩
  rw [List.take_succ_eq_append_getElem hk, bestF_snoc, h2]
  exact bestS_less hv
theorem pick_end {us : List Value} {L : List (List (List Int))} {vf : List (List Int) → Int} {v : Value} {n : Int} (h : PickSt us L vf L.length v n) : ∃ j, ∃ hj : j < L.length, bestF vf L = some (L[j], n) ∧ v = us.getD j undef := by
  obtain ⟨j, m, h1, h2, h3, h4⟩ := h
  rw [List.take_length] at h2
  rw [List.getElem?_eq_getElem h1] at h3
  exact ⟨j, h1, by rw [Option.some.inj h3]; exact h2, h4⟩
end Go.Proofs.YtjnnoabaepmcnaaGreat
/-
  Images with the sums of one: what the lists of its sums say.
-/
namespace Go.Proofs.YtjnnoabaepmcnaaGreat
open Go.RowKit

theorem sameB_okI {R C : Nat} {f g : Nat → Nat → Int} (hI : Img R C f) (hJ : Img R C g) (hs : SameF R C f g) : sameB (mkM R C f) (mkM R C g) = true := by
  rw [sameB_mk hI hJ, if_pos ⟨rfl, rfl⟩]
  unfold sameL
  rw [Bool.and_eq_true, beq_iff_eq, beq_iff_eq]
  refine ⟨rowF_congr fun y hy => by rw [hs.1 y hy], rowF_congr fun x hx => ?_⟩
  have := hs.2 x hx
  show ((rs R (trM f) x : Nat) : Int) = rs R (trM g) x
  exact congrArg Int.ofNat this
theorem img_sameI {R C : Nat} {f g : Nat → Nat → Int} (hI : Img R C f) (hg : ImgF (rowsL R C f) (rowsL C R (trM f)) g) : Img R C g ∧ SameF R C g f := by
  obtain ⟨h1, h2, h3⟩ := (imgF_iff hI g).1 hg
  have hJ : Img R C g := ⟨hI.r1, hI.r2, hI.c1, hI.c2, h1⟩
  refine ⟨hJ, fun y hy => ?_, fun x hx => ?_⟩
  · have := h2 y hy
    rw [S_cnt _ _ fun x hx => h1 y x hy hx, S_cnt _ _ fun x hx => hI.cell y x hy hx] at this
    unfold rs; omega
  · have := h3 x hx
    rw [S_cnt _ _ fun y hy => h1 y x hy hx, S_cnt _ _ fun y hy => hI.cell y x hy hx] at this
    unfold cs; omega
theorem imgF_sameI {R C : Nat} {f g : Nat → Nat → Int} (hI : Img R C f) (hJ : Img R C g) (hs : SameF R C f g) : ImgF (rowsL R C f) (rowsL C R (trM f)) g := by
  refine (imgF_iff hI g).2 ⟨hJ.cell, fun y hy => ?_, fun x hx => ?_⟩
  · rw [S_cnt _ _ fun x hx => hJ.cell y x hy hx, S_cnt _ _ fun x hx => hI.cell y x hy hx]
    have := hs.1 y hy
    unfold rs at this; omega
  · rw [S_cnt _ _ fun y hy => hJ.cell y x hy hx, S_cnt _ _ fun y hy => hI.cell y x hy hx]
    have := hs.2 x hx
    unfold cs at this; omega
theorem inMat_sliceI {w : World} {v : Value} {R C : Nat} {f : Nat → Nat → Int} (h : InMat w v (mkM R C f)) : ∃ a c, v = .slice a R c := by
  obtain ⟨a, c, rfl, -⟩ := h
  rw [mkM_len]; exact ⟨a, c, rfl⟩
theorem exists_I {R C : Nat} {f : Nat → Nat → Int} (hI : Img R C f) : existsOf (rowsL R C f) (rowsL C R (trM f)) = true := by
  have h1 := hI.r1; have h2 := hI.r2; have h3 := hI.c1; have h4 := hI.c2
  exact exists_of_img (by rw [rows_len]; omega) (by rw [rows_len]; omega) ⟨f, imgF_self hI⟩
theorem mem_I {R C : Nat} {f g : Nat → Nat → Int} (hI : Img R C f) (hJ : Img R C g) (hs : SameF R C f g) : mkM R C g ∈ allL (rowsL R C f) (rowsL C R (trM f)) := by
  have h := all_complete (rowsL R C f) (rowsL C R (trM f)) (by rw [rows_len]; exact hI.r2) (by rw [rows_len]; exact ⟨hI.c1, hI.c2⟩) g (imgF_sameI hI hJ hs)
  rw [rows_len, rows_len] at h
  exact h
theorem allL_I {R C : Nat} {f : Nat → Nat → Int} (hI : Img R C f) {m : List (List Int)} (hm : m ∈ allL (rowsL R C f) (rowsL C R (trM f))) : m = mkM R C (cellM m) ∧ Img R C (cellM m) ∧ SameF R C (cellM m) f := by
  obtain ⟨h1, -, h3⟩ := allL_mk (exists_I hI) hm
  rw [rows_len, rows_len] at h1
  exact ⟨h1, (img_sameI hI h3).1, (img_sameI hI h3).2⟩
theorem sameF_refl (R C : Nat) (f : Nat → Nat → Int) : SameF R C f f := ⟨fun _ _ => rfl, fun _ _ => rfl⟩
end Go.Proofs.YtjnnoabaepmcnaaGreat
/-
  Masks: what meets them, all images that do, and when there is none.
-/
namespace Go.Proofs.YtjnnoabaepmcnaaGreat
open Go.RowKit Mx

/-- Two lists of one length whose elements fit, one by one. -/
def eqBy {α β : Type} (p : α → β → Bool) : List α → List β → Bool
  | [], [] => true
  | a :: l, b :: k => p a b && eqBy p l k
  | _, _ => false
theorem eqBy_len {α β : Type} {p : α → β → Bool} : ∀ {l : List α} {k : List β}, eqBy p l k = true → l.length = k.length
  | [], [], _ => rfl
  | a :: l, b :: k, h => by
    simp only [eqBy, Bool.and_eq_true] at h
    simp [eqBy_len h.2]
  | [], _ :: _, h => by simp [eqBy] at h
  | _ :: _, [], h => by simp [eqBy] at h
theorem eqBy_at {α β : Type} {p : α → β → Bool} : ∀ {l : List α} {k : List β} (i : Nat) (h1 : i < l.length) (h2 : i < k.length), eqBy p l k = true → p l[i] k[i] = true
  | a :: l, b :: k, 0, _, _, h => by simp only [eqBy, Bool.and_eq_true] at h; exact h.1
  | a :: l, b :: k, i + 1, h1, h2, h => by
    simp only [eqBy, Bool.and_eq_true] at h
    simpa using eqBy_at i (by simpa using h1) (by simpa using h2) h.2
theorem eqBy_yes {α β : Type} {p : α → β → Bool} : ∀ {l : List α} {k : List β}, l.length = k.length → (∀ i (h1 : i < l.length) (h2 : i < k.length), p l[i] k[i] = true) → eqBy p l k = true
  | [], [], _, _ => rfl
  | a :: l, b :: k, h, hp => by
    simp only [eqBy, Bool.and_eq_true]
    exact ⟨hp 0 (by simp) (by simp), eqBy_yes (by simpa using h) fun i h1 h2 => hp (i + 1) (by simpa using h1) (by simpa using h2)⟩
  | [], _ :: _, h, _ => by simp at h
  | _ :: _, [], h, _ => by simp at h
theorem eqBy_no1 {α β : Type} {p : α → β → Bool} {l : List α} {k : List β} (h : l.length ≠ k.length) : eqBy p l k = false := by
  cases e : eqBy p l k with
  | false => rfl
  | true => exact absurd (eqBy_len e) h
theorem eqBy_no2 {α β : Type} {p : α → β → Bool} {l : List α} {k : List β} (i : Nat) (h1 : i < l.length) (h2 : i < k.length) (h : p l[i] k[i] = false) : eqBy p l k = false := by
  cases e : eqBy p l k with
  | false => rfl
  | true => have := eqBy_at i h1 h2 e; rw [h] at this; cases this

/-- A cell meets an element of a mask. -/
def meetC (c k : Int) : Bool := k == -1 || k == c
def meetR : List Int → List Int → Bool := eqBy meetC
def meetM : List (List Int) → List (List Int) → Bool := eqBy meetR
def meetsB (m k : List (List Int)) : Bool := okB m && meetM m k
def maskRowB (C : Nat) (q : List Int) : Bool := q.length == C && q.all fun x => x == -1 || cellOk x
def maskB (k : List (List Int)) (r c : List Int) : Bool := sumsOk r c && k.length == r.length && k.all (maskRowB c.length)

/-- All images whose rows are chosen so, row by row: p says of a row, before these sums of the rows below, whether it may stand there. -/
def imL (p : List Int → List Int → Bool) : List Int → List Int → List (List (List Int))
  | [], _ => [[]]
  | a :: r, c => ((firstRows a r c).filter (p r)).flatMap fun row => (imL p r (subL c row)).map (row :: ·)
theorem imL_all : ∀ (r c : List Int), imL (fun _ _ => true) r c = allL r c
  | [], _ => rfl
  | a :: r, c => by
    rw [imL, allL, List.filter_eq_self.2 (fun _ _ => rfl), firstRows, flat_filterM]
    exact congrArg (List.flatMap · _) (funext fun row => by rw [imL_all r])
where
  flat_filterM {α β : Type} (p : α → Bool) (f : α → List β) : ∀ l : List α, (l.filter p).flatMap f = l.flatMap fun x => if p x then f x else []
  | [] => rfl
  | x :: l => by
    rw [List.flatMap_cons, List.filter_cons, ← flat_filterM p f l]
    cases p x <;> simp
theorem imL_sub (p : List Int → List Int → Bool) : ∀ (r c : List Int), ∀ {m : List (List Int)}, m ∈ imL p r c → m ∈ allL r c
  | [], _, _, h => h
  | a :: r, c, m, h => by
    rw [imL, List.mem_flatMap] at h
    obtain ⟨row, h1, h2⟩ := h
    obtain ⟨m', h3, rfl⟩ := List.mem_map.1 h2
    obtain ⟨h4, -⟩ := List.mem_filter.1 h1
    obtain ⟨h5, h6⟩ := List.mem_filter.1 h4
    rw [allL, List.mem_flatMap]
    exact ⟨row, h5, by rw [if_pos h6]; exact List.mem_map.2 ⟨m', imL_sub p r _ h3, rfl⟩⟩
/-- The row of a mask that stands before so many rows. -/
def maskP (k : List (List Int)) (r row : List Int) : Bool := meetR row (k.getD (k.length - (r.length + 1)) [])
theorem filter_map_cons {α : Type} (q : List α → Bool) (x : α) : ∀ l : List (List α), (l.map (x :: ·)).filter q = (l.filter fun m => q (x :: m)).map (x :: ·)
  | [] => rfl
  | m :: l => by
    rw [List.map_cons, List.filter_cons, List.filter_cons, filter_map_cons q x l]
    cases q (x :: m) <;> simp
theorem filter_flat {α β : Type} (q : β → Bool) (f : α → List β) : ∀ l : List α, (l.flatMap f).filter q = l.flatMap fun x => (f x).filter q
  | [] => rfl
  | x :: l => by rw [List.flatMap_cons, List.flatMap_cons, List.filter_append, filter_flat q f l]
theorem imL_mask : ∀ (r c : List Int) (k : List (List Int)), r.length ≤ k.length → imL (maskP k) r c = (allL r c).filter fun m => meetM m (k.drop (k.length - r.length))
  | [], c, k, _ => by
    rw [imL, allL, List.length_nil, Nat.sub_zero, List.drop_length]; rfl
  | a :: r, c, k, h => by
    rw [List.length_cons] at h
    have hd : k.drop (k.length - (r.length + 1)) = k.getD (k.length - (r.length + 1)) [] :: k.drop (k.length - r.length) := by
      rw [List.drop_eq_getElem_cons (by omega), List.getD_eq_getElem?_getD, List.getElem?_eq_getElem (by omega), Option.getD_some, show k.length - (r.length + 1) + 1 = k.length - r.length by omega]
    rw [imL, List.length_cons, hd, ← imL_all, imL, filter_flat, List.filter_eq_self.2 (fun _ _ => rfl), imL_all.flat_filterM]
    refine congrArg (List.flatMap · _) (funext fun row => ?_)
    rw [filter_map_cons, imL_all, imL_mask r (subL c row) k (by omega)]
    have hp : ∀ m, meetM (row :: m) (k.getD (k.length - (r.length + 1)) [] :: k.drop (k.length - r.length)) = (maskP k r row && meetM m (k.drop (k.length - r.length))) := fun m => rfl
    cases hc : maskP k r row with
    | false =>
      rw [if_neg (by simp), List.filter_eq_nil_iff.2 (fun m _ => by rw [hp, hc]; simp)]; rfl
    | true =>
      rw [if_pos rfl]
      exact congrArg _ (List.filter_congr fun m _ => by rw [hp, hc, Bool.true_and])
/-- The images that meet a mask. -/
def maskedL (k : List (List Int)) (r c : List Int) : List (List (List Int)) := (allIm r c).filter fun m => meetM m k
theorem maskedL_im {k : List (List Int)} {r c : List Int} (h : maskB k r c = true) : imL (maskP k) r c = maskedL k r c := by
  unfold maskB at h
  simp only [Bool.and_eq_true, beq_iff_eq] at h
  rw [imL_mask r c k (by omega), h.1.2, Nat.sub_self, List.drop_zero, maskedL, allIm_sums h.1.1]
def maskedImB (k : List (List Int)) (r c : List Int) : Bool := maskB k r c && !(maskedL k r c).isEmpty
def maskedIm (k : List (List Int)) (r c : List Int) : List (List Int) := if maskB k r c = true then (maskedL k r c).headD [] else []
def maskedCnt (k : List (List Int)) (r c : List Int) : Int := if maskB k r c = true then ((maskedL k r c).length : Int) else -1
end Go.Proofs.YtjnnoabaepmcnaaGreat
/-
  slices.IndexFunc and ContainsFunc over integers at a predicate that reads nothing; slices.Index and Contains.
-/
namespace Go.Proofs.YtjnnoabaepmcnaaGreat
open Go.RowKit Go.Shelf

/-- What a function value answers of an integer, reading nothing. -/
def IntPred (g : Nat) (cb : Array Value) (p : Int → Bool) : Prop := ∀ (x : Int) (w : World), Calls Tryz.prog g (#[.int .i64 x] ++ cb) w fun e w' => e = .returned (.bool (p x)) ∧ w = w'
set_option maxHeartbeats 1000000 in
theorem idxInts_any (v : Value) (r : List Int) (g : Nat) (cb : Array Value) (p : Int → Bool) (w : World) (eg : ∀ args w, (callFunc g args).run Tryz.prog w = .ok (.enter g args) w) (hin : InRow w v r) (hp : IntPred g cb p) :
    Calls Tryz.prog 60 #[v, .func (.func g) #[] cb] w (IdxRes (r.any p) w) := by
  have HP := hide hp
  clear hp
  obtain ⟨a, c, rfl, hm, hp⟩ := hin
  unfold maxLen at hm
  by_cases h0 : r.length = 0
  · have hr : r = [] := List.eq_nil_of_length_eq_zero h0
    subst hr
    clear hp h0 hm
    go_enter Tryz.func60, Tryz.ntmps60
    go_wp2
    go_loop [8] (fun i => i = .int .i64 0) (fun _ => 0)
    case atStart => rfl
    case round =>
      obtain rfl := hrel
      go_wp2
      go_ret
      exact ⟨-1, rfl, by omega, rfl, rfl⟩
  · obtain ⟨gr, o, rfl, hg, hc⟩ := hp.resolve_left h0
    have HC := hide hc
    obtain ⟨n, hn⟩ : ∃ n, n = r.length := ⟨_, rfl⟩
    have HN := hide hn
    rw [← hn] at hm ⊢
    clear hp hc h0 hn
    go_enter Tryz.func60, Tryz.ntmps60
    go_wp2
    go_loop [8] (fun i => ∃ k : Nat, k ≤ n ∧ i = .int .i64 k ∧ ∀ t, (h : t < r.length) → t < k → p r[t] = false) (fun i => n - (intOf i).toNat)
    case atStart => exact ⟨0, Nat.zero_le _, rfl, fun t _ h => absurd h (Nat.not_lt_zero _)⟩
    case round =>
      obtain ⟨k, hk, rfl, hall⟩ := hrel
      have HA := hide hall
      clear hall
      by_cases hlt : k < n
      · have hk' : k < r.length := by rw [← HN.out]; exact hlt
        have hx := HC.out k hk'
        have HNO := hide (fun h => any_yes (p := p) k hk' h)
        have HST : Hid (p r[k] = false → ∀ t, (h : t < r.length) → t < k + 1 → p r[t] = false) := hide fun h t h1 ht => by
          by_cases e : t = k
          · subst e; exact h
          · exact HA.out t h1 (by omega)
        obtain ⟨x, hxx⟩ : ∃ x, x = r[k] := ⟨_, rfl⟩
        rw [← hxx] at hx HNO HST
        clear hxx
        have HCALL := hide (fun w' => HP.out x w')
        obtain ⟨q, hq⟩ : ∃ q, q = p x := ⟨_, rfl⟩
        rw [← hq] at HCALL HNO HST
        clear hq
        cases q with
        | true =>
          have HF := hide (HNO.out rfl)
          clear HNO HST
          go_wp2_with (go_at_fn g; refine (HCALL.out _).mono ?_; rintro e w9 ⟨rfl, rfl⟩)
          go_ret
          exact ⟨k, rfl, by omega, by rw [HF.out]; simp, rfl⟩
        | false =>
          have HS2 := hide (HST.out rfl)
          clear HNO HST
          go_wp2_with (go_at_fn g; refine (HCALL.out _).mono ?_; rintro e w9 ⟨rfl, rfl⟩)
          go_round
          case rel => exact ⟨k + 1, by omega, by go_num, HS2.out⟩
          case measure => simp [intOf]; omega
      · have HY := hide (any_no (p := p) fun t h => HA.out t h (by have := HN.out; omega))
        go_wp2
        go_ret
        exact ⟨-1, rfl, by omega, by rw [HY.out]; rfl, rfl⟩
theorem containsInts_any (v : Value) (r : List Int) (g : Nat) (cb : Array Value) (p : Int → Bool) (w : World) (eg : ∀ args w, (callFunc g args).run Tryz.prog w = .ok (.enter g args) w) (hin : InRow w v r) (hp : IntPred g cb p) :
    Calls Tryz.prog 43 #[v, .func (.func g) #[] cb] w fun e w' => e = .returned (.bool (r.any p)) ∧ w = w' := by
  have HI := hide (idxInts_any v r g cb p w eg hin hp)
  clear hin hp eg
  go_enter Tryz.func43, Tryz.ntmps43
  go_wp2_with fail
  refine HI.out.mono ?_
  rintro e w1 ⟨i, rfl, hi, hb, rfl⟩
  have HB := hide hb
  clear hb HI
  by_cases h : 0 ≤ i
  · go_wp2
    go_ret
    exact ⟨ret_bool (by rw [HB.out]; simp [h]), rfl⟩
  · go_wp2
    go_ret
    exact ⟨ret_bool (by rw [HB.out]), rfl⟩
theorem any_not {α : Type} (p : α → Bool) (r : List α) : (!r.any fun x => !p x) = r.all p := by
  induction r with
  | nil => rfl
  | cons x r ih => rw [List.any_cons, List.all_cons, ← ih]; cases p x <;> simp
def hasB (l : List Int) (y : Nat) : Bool := l.any fun x => x == (y : Int)
theorem hasB_at {l : List Int} {y : Nat} (i : Nat) (h : i < l.length) (e : l[i] = y) : hasB l y = true := List.any_eq_true.2 ⟨_, List.getElem_mem h, by simp [e]⟩
theorem hasB_no {l : List Int} {y : Nat} (h : ∀ i, (hi : i < l.length) → l[i] ≠ y) : hasB l y = false := by
  unfold hasB
  rw [List.any_eq_false]
  intro x hx
  obtain ⟨i, hi, rfl⟩ := List.getElem_of_mem hx
  simpa using h i hi

end Go.Proofs.YtjnnoabaepmcnaaGreat
/-
  Conflicts: what lists ask of a mask; where none do, an image meets it.
-/
namespace Go.Proofs.YtjnnoabaepmcnaaGreat
open Go.RowKit Mx

/-- An element of an ascending list of numbers below n. -/
def ascP (n : Int) (l : List Int) (t : Nat) : Bool := decide (0 ≤ l.getD t 0 ∧ l.getD t 0 < n) && (t == 0 || decide (l.getD (t - 1) 0 < l.getD t 0))
def ascB (n : Int) (l : List Int) : Bool := (List.range l.length).all (ascP n l)
theorem asc_yes {n : Int} {l : List Int} (h : ∀ t, t < l.length → ascP n l t = true) : ascB n l = true := by
  rw [ascB, List.all_eq_true]
  exact fun t ht => h t (List.mem_range.1 ht)
theorem asc_at {n : Int} {l : List Int} (h : ascB n l = true) {t : Nat} (ht : t < l.length) : ascP n l t = true := List.all_eq_true.1 h t (List.mem_range.2 ht)
theorem asc_no {n : Int} {l : List Int} {t : Nat} (ht : t < l.length) (h : ascP n l t = false) : ascB n l = false := by
  cases e : ascB n l with
  | false => rfl
  | true => have := asc_at e ht; rw [h] at this; cases this
/-- In an ascending list the elements lie in their range, and there are no more of them than numbers. -/
theorem asc_range {n : Int} {l : List Int} (h : ascB n l = true) {t : Nat} (ht : t < l.length) : (t : Int) ≤ l.getD t 0 ∧ l.getD t 0 < n := by
  induction t with
  | zero =>
    have := asc_at h ht
    simp only [ascP, Bool.and_eq_true, decide_eq_true_eq] at this
    exact ⟨by simpa using this.1.1, this.1.2⟩
  | succ t ih =>
    have h1 := ih (by omega)
    have := asc_at h ht
    simp only [ascP, Bool.and_eq_true, decide_eq_true_eq, Bool.or_eq_true, beq_iff_eq, Nat.add_sub_cancel] at this
    obtain ⟨h2, h3 | h3⟩ := this
    · omega
    · exact ⟨by omega, h2.2⟩
theorem asc_len {n : Int} {l : List Int} (hn : 0 ≤ n) (h : ascB n l = true) : (l.length : Int) ≤ n := by
  by_cases h0 : l.length = 0
  · omega
  · have := asc_range h (t := l.length - 1) (by omega)
    omega

/-- What stands at these numbers, together. -/
def totalL (s l : List Int) : Int := (l.map fun i => s.getD i.toNat 0).sum
theorem totalL_snoc (s l : List Int) (t : Nat) (h : t < l.length) : totalL s (l.take (t + 1)) = totalL s (l.take t) + s.getD l[t].toNat 0 := by
  unfold totalL
  rw [List.take_succ_eq_append_getElem h, List.map_append, List.sum_append]; simp
theorem totalL_range (s l : List Int) (hs : ∀ x ∈ s, 0 ≤ x ∧ x ≤ 5) : 0 ≤ totalL s l ∧ totalL s l ≤ 5 * l.length := by
  unfold totalL
  induction l with
  | nil => simp
  | cons i l ih =>
    rw [List.map_cons, List.sum_cons, List.length_cons]
    have : 0 ≤ s.getD i.toNat 0 ∧ s.getD i.toNat 0 ≤ 5 := by
      rw [List.getD_eq_getElem?_getD]
      cases e : s[i.toNat]? with
      | none => simp
      | some x => exact hs x (List.mem_of_getElem? e)
    omega
/-- What a cell of a mask gives. -/
def cellC (a d : Bool) (v : Int) : Int := (if a && !d && !(v == 0) then 1 else 0) + if !a && d && v == 1 then -1 else 0
theorem cellC_range (a d : Bool) (v : Int) : -1 ≤ cellC a d v ∧ cellC a d v ≤ 1 := by
  unfold cellC
  cases a <;> cases d <;> simp <;> split <;> omega
/-- What the first x cells of row y give. -/
def roomR (k : List (List Int)) (l o : List Int) (y x : Nat) : Int := S x fun i => cellC (hasB l y) (hasB o i) ((k.getD y []).getD i 0)
/-- What the first y rows give. -/
def roomP (k : List (List Int)) (l o : List Int) (C y : Nat) : Int := S y fun i => roomR k l o i C
theorem roomR_range (k : List (List Int)) (l o : List Int) (y : Nat) : ∀ x : Nat, -(x : Int) ≤ roomR k l o y x ∧ roomR k l o y x ≤ x
  | 0 => by simp [roomR, S]
  | x + 1 => by
    have h1 := roomR_range k l o y x
    have h2 := cellC_range (hasB l y) (hasB o x) ((k.getD y []).getD x 0)
    unfold roomR at h1 ⊢
    rw [S]; omega
theorem roomP_range (k : List (List Int)) (l o : List Int) (C : Nat) (hC : C ≤ 5) : ∀ y : Nat, -(5 * y : Int) ≤ roomP k l o C y ∧ roomP k l o C y ≤ 5 * y
  | 0 => by simp [roomP, S]
  | y + 1 => by
    have h1 := roomP_range k l o C hC y
    have h2 := roomR_range k l o y C
    unfold roomP at h1 ⊢
    rw [S]; omega
def confB (k : List (List Int)) (r c l o : List Int) : Bool := decide (roomP k l o c.length r.length < totalL r l - totalL c o)
def hasConfB (k : List (List Int)) (r c l o : List Int) : Bool := maskB k r c && ascB r.length l && ascB c.length o && confB k r c l o

/-- What must be, what may be. -/
def loK (k : List (List Int)) (y x : Nat) : Int := if (k.getD y []).getD x 0 == 1 then 1 else 0
def hiK (k : List (List Int)) (y x : Nat) : Int := if (k.getD y []).getD x 0 == 0 then 0 else 1
theorem cellC_kc (a d : Bool) (k : List (List Int)) (y x : Nat) : cellC a d ((k.getD y []).getD x 0) = kc a d (hiK k y x) (loK k y x) := by
  unfold cellC kc hiK loK
  generalize (k.getD y []).getD x 0 = v
  cases a <;> cases d <;> cases h0 : (v == 0) <;> cases h1 : (v == 1) <;> simp
theorem room_over (k : List (List Int)) (r c l o : List Int) (hl : ascB r.length l = true) (ho : ascB c.length o = true) :
    totalL r l - totalL c o - roomP k l o c.length r.length = over r.length c.length (fun y => r.getD y 0) (fun x => c.getD x 0) (loK k) (hiK k) (hasB l) (hasB o) := by
  unfold over
  rw [total_on r l hl, total_on c o ho]
  congr 1
  exact S_congr _ fun y _ => S_congr _ fun x _ => cellC_kc _ _ _ _ _
where
  total_on (s l : List Int) (h : ascB s.length l = true) : totalL s l = S s.length (on (hasB l) fun y => s.getD y 0) := by
    have hin : ∀ (m : List Int), (∀ i, (hi : i < m.length) → 0 ≤ m[i] ∧ m[i] < s.length) → (∀ i j, (hi : i < m.length) → (hj : j < m.length) → i < j → m[i] < m[j]) → totalL s m = S s.length (on (hasB m) fun y => s.getD y 0) := by
      intro m
      induction m with
      | nil =>
        intro _ _
        rw [S_congr _ (g := fun _ => 0) (fun i _ => by simp [on, hasB]), S_zero]
        rfl
      | cons a m ih =>
        intro h1 h2
        have ha := h1 0 (by simp)
        simp only [List.getElem_cons_zero] at ha
        have ih' := ih (fun i hi => h1 (i + 1) (by simpa using hi)) (fun i j hi hj hij => h2 (i + 1) (j + 1) (by simpa using hi) (by simpa using hj) (by omega))
        have hna : hasB m a.toNat = false := by
          unfold hasB
          rw [List.any_eq_false]
          intro x hx
          obtain ⟨i, hi, rfl⟩ := List.getElem_of_mem hx
          have := h2 0 (i + 1) (by simp) (by simpa using hi) (by omega)
          simp only [List.getElem_cons_zero, List.getElem_cons_succ] at this
          simp; omega
        have e : totalL s (a :: m) = s.getD a.toNat 0 + totalL s m := by simp [totalL]
        rw [e, ih', ← S_pick (show a.toNat < s.length by omega) (s.getD a.toNat 0), ← S_add]
        refine S_congr _ fun i _ => ?_
        unfold on
        have hh : hasB (a :: m) i = (a == (i : Int) || hasB m i) := by simp [hasB]
        by_cases e1 : i = a.toNat
        · subst e1
          rw [if_pos rfl, hna, hh, show (a == ((a.toNat : Nat) : Int)) = true from beq_iff_eq.2 (by omega)]; simp
        · rw [if_neg e1, hh, show (a == (i : Int)) = false from beq_eq_false_iff_ne.2 (by omega)]; simp
    refine hin l (fun i hi => ?_) (fun i j hi hj hij => ?_)
    · have := asc_range h hi
      rw [List.getD_eq_getElem?_getD, List.getElem?_eq_getElem hi, Option.getD_some] at this
      omega
    · induction j with
      | zero => omega
      | succ j ih =>
        have := asc_at h hj
        simp only [ascP, Bool.and_eq_true, decide_eq_true_eq, Bool.or_eq_true, beq_iff_eq, Nat.add_sub_cancel] at this
        have h3 : l[j] < l[j + 1] := by
          have h4 := this.2.resolve_left (by omega)
          rw [List.getD_eq_getElem?_getD, List.getElem?_eq_getElem (by omega), Option.getD_some, List.getD_eq_getElem?_getD, List.getElem?_eq_getElem hj, Option.getD_some] at h4
          exact h4
        by_cases e : i = j
        · subst e; exact h3
        · have := ih (by omega) (by omega); omega

theorem mask_parts {k : List (List Int)} {r c : List Int} (h : maskB k r c = true) : sumsOk r c = true ∧ k.length = r.length ∧ ∀ y, y < r.length → (k.getD y []).length = c.length ∧ ∀ x, x < c.length → (k.getD y []).getD x 0 = -1 ∨ (k.getD y []).getD x 0 = 0 ∨ (k.getD y []).getD x 0 = 1 := by
  unfold maskB at h
  simp only [Bool.and_eq_true, beq_iff_eq] at h
  refine ⟨h.1.1, h.1.2, fun y hy => ?_⟩
  have hyk : y < k.length := by rw [h.1.2]; exact hy
  have := List.all_eq_true.1 h.2 _ (List.getElem_mem hyk)
  unfold maskRowB at this
  simp only [Bool.and_eq_true, beq_iff_eq] at this
  rw [List.getD_eq_getElem?_getD, List.getElem?_eq_getElem hyk, Option.getD_some]
  refine ⟨this.1, fun x hx => ?_⟩
  have hxk : x < k[y].length := by rw [this.1]; exact hx
  have := List.all_eq_true.1 this.2 _ (List.getElem_mem hxk)
  rw [List.getD_eq_getElem?_getD, List.getElem?_eq_getElem hxk, Option.getD_some]
  unfold cellOk at this
  simpa using this
/-- There is an image that meets the mask exactly if no rows and columns ask for too much. -/
theorem masked_iff {k : List (List Int)} {r c : List Int} (h : maskB k r c = true) : maskedL k r c ≠ [] ↔ ∀ L O : Nat → Bool, over r.length c.length (fun y => r.getD y 0) (fun x => c.getD x 0) (loK k) (hiK k) L O ≤ 0 := by
  obtain ⟨hs, hkl, hk⟩ := mask_parts h
  obtain ⟨hr, hc, -, -, hsum⟩ := sumsOk_yes hs
  have ht : (S r.length fun y => r.getD y 0) = S c.length fun x => c.getD x 0 := by rw [← sum_S, ← sum_S]; exact hsum
  have hbox : ∀ y x, y < r.length → x < c.length → (loK k y x = 0 ∨ loK k y x = 1) ∧ (hiK k y x = 0 ∨ hiK k y x = 1) ∧ loK k y x ≤ hiK k y x := fun y x hy hx => by
    unfold loK hiK
    rcases (hk y hy).2 x hx with e | e | e <;> rw [e] <;> simp
  constructor
  · intro hne L O
    obtain ⟨m, hm⟩ := List.exists_mem_of_ne_nil _ hne
    obtain ⟨hm1, hm2⟩ := List.mem_filter.1 hm
    rw [allIm_sums hs] at hm1
    have hI : HasImg r c := by
      cases he : existsOf r c with
      | true => exact img_of_exists he
      | false => rw [allL_none hs he] at hm1; cases hm1
    obtain ⟨g1, g2, g3⟩ := all_sound r c hr.2 hc hI m hm1
    have hcell : ∀ y x, y < r.length → x < c.length → loK k y x ≤ (m.getD y []).getD x 0 ∧ (m.getD y []).getD x 0 ≤ hiK k y x := fun y x hy hx => by
      have hym : y < m.length := by omega
      have hyk : y < k.length := by omega
      have h1 : meetR m[y] k[y] = true := eqBy_at y hym hyk hm2
      have hxm : x < m[y].length := by rw [g2 _ (List.getElem_mem hym)]; exact hx
      have hxk : x < k[y].length := by rw [← eqBy_len h1]; exact hxm
      have h2 : meetC m[y][x] k[y][x] = true := eqBy_at x hxm hxk h1
      have h3 := g3.cell y x hy hx
      have e1 : (m.getD y []).getD x 0 = m[y][x] := by simp [List.getD_eq_getElem?_getD, hym, hxm]
      have e2 : (k.getD y []).getD x 0 = k[y][x] := by simp [List.getD_eq_getElem?_getD, hyk, hxk]
      have h4 := (hk y hy).2 x hx
      rw [e1] at h3 ⊢
      rw [e2] at h4
      unfold loK hiK
      rw [e2]
      unfold meetC at h2
      simp only [Bool.or_eq_true, beq_iff_eq] at h2
      rcases h4 with e | e | e <;> rw [e] at h2 ⊢ <;> simp <;> omega
    exact over_img (fun y => r.getD y 0) (fun x => c.getD x 0) (loK k) (hiK k) (fun y x => (m.getD y []).getD x 0) (fun y x hy hx => ⟨hcell y x hy hx, g3.cell y x hy hx⟩) g3.row g3.col L O
  · intro hov
    obtain ⟨m, h1, h2, h3⟩ := exists_between r.length c.length (fun y => r.getD y 0) (fun x => c.getD x 0) ht _ (loK k) (hiK k) (Nat.le_refl _) hbox hov
    have hI : ImgF r c m := ⟨fun y x hy hx => by
      have := h1 y x hy hx
      have := hbox y x hy hx
      omega, h2, h3⟩
    have hmem := all_complete r c hr.2 hc m hI
    refine List.ne_nil_of_mem (a := listF r.length c.length m) (List.mem_filter.2 ⟨by rw [allIm_sums hs]; exact hmem, eqBy_yes (by simp [listF, hkl]) fun y hy hyk => ?_⟩)
    have hy' : y < r.length := by omega
    have e : (listF r.length c.length m)[y] = tabL c.length (m y) := by simp [listF]
    rw [e]
    have hkr := (hk y hy').1
    rw [List.getD_eq_getElem?_getD, List.getElem?_eq_getElem hyk, Option.getD_some] at hkr
    refine eqBy_yes (by rw [tabL_len, hkr]) fun x hx hxk => ?_
    rw [tabL_len] at hx
    rw [tabL_at]
    have h5 := h1 y x hy' hx
    have h6 := (hk y hy').2 x hx
    have e2 : (k.getD y []).getD x 0 = k[y][x] := by simp [List.getD_eq_getElem?_getD, hyk, hxk]
    unfold loK hiK at h5
    rw [e2] at h5 h6
    unfold meetC
    rcases h6 with e | e | e <;> rw [e] at h5 ⊢ <;> simp at h5 ⊢ <;> omega
where
  over_img {R C : Nat} (r c : Nat → Int) (lo hi m : Nat → Nat → Int) (hm : ∀ y x, y < R → x < C → (lo y x ≤ m y x ∧ m y x ≤ hi y x) ∧ (m y x = 0 ∨ m y x = 1)) (hrow : ∀ y, y < R → S C (m y) = r y) (hcol : ∀ x, x < C → S R (fun y => m y x) = c x) (L O : Nat → Bool) : over R C r c lo hi L O ≤ 0 := by
    have e1 : S R (on L r) = S R fun y => S C fun x => if L y then m y x else 0 := S_congr R fun y hy => by
      unfold on
      cases L y with
      | true => simp only [if_true]; rw [← hrow y hy]
      | false => simp [S_zero]
    have e2 : S C (on O c) = S R fun y => S C fun x => if O x then m y x else 0 := by
      rw [S_swap]
      refine S_congr C fun x hx => ?_
      unfold on
      cases O x with
      | true => simp only [if_true]; rw [← hcol x hx]
      | false => simp [S_zero]
    unfold over
    rw [e1, e2, ← S_sub, ← S_sub]
    have := S_le (f := fun y => (S C fun x => if L y then m y x else 0) - (S C fun x => if O x then m y x else 0) - S C fun x => kc (L y) (O x) (hi y x) (lo y x)) (g := fun _ => 0) R (fun y hy => by
      rw [← S_sub, ← S_sub]
      have := S_le (f := fun x => (if L y then m y x else 0) - (if O x then m y x else 0) - kc (L y) (O x) (hi y x) (lo y x)) (g := fun _ => 0) C (fun x hx => by
        have := hm y x hy hx
        unfold kc
        cases L y <;> cases O x <;> simp <;> omega)
      rwa [S_zero] at this)
    rwa [S_zero] at this
end Go.Proofs.YtjnnoabaepmcnaaGreat
/-
  Cells as the bits of a number; the images that agree with one in some cells (pure).
-/
namespace Go.Proofs.YtjnnoabaepmcnaaGreat
open Go.RowKit

/-- The number whose bits are the p's below n. -/
def setN (p : Nat → Bool) : Nat → Nat
  | 0 => 0
  | n + 1 => setN p n + if p n = true then 2 ^ n else 0
theorem setN_lt (p : Nat → Bool) : ∀ n, setN p n < 2 ^ n
  | 0 => by simp [setN]
  | n + 1 => by
    have := setN_lt p n
    rw [setN, Nat.pow_succ]
    split <;> omega
/-- Whether a bit is set. -/
def hasN (s k : Nat) : Bool := s / 2 ^ k % 2 == 1
theorem setN_has (p : Nat → Bool) : ∀ n k, k < n → hasN (setN p n) k = p k
  | 0, k, h => absurd h (Nat.not_lt_zero k)
  | n + 1, k, h => by
    have hlt := setN_lt p n
    unfold hasN
    rw [setN]
    by_cases e : k = n
    · subst e
      cases hp : p k with
      | true => rw [if_pos rfl, Nat.add_div_right _ (Nat.two_pow_pos k), Nat.div_eq_of_lt hlt]; rfl
      | false => rw [if_neg (by decide), Nat.add_zero, Nat.div_eq_of_lt hlt]; rfl
    · have ih := setN_has p n k (by omega)
      unfold hasN at ih
      cases hp : p n with
      | false => rw [if_neg (by decide), Nat.add_zero]; exact ih
      | true =>
        obtain ⟨d, rfl⟩ : ∃ d, n = k + (d + 1) := ⟨n - k - 1, by omega⟩
        rw [if_pos rfl, Nat.pow_add 2 k (d + 1), Nat.add_mul_div_left _ _ (Nat.two_pow_pos k), Nat.pow_succ, Nat.add_mul_mod_self_right]
        exact ih
theorem setN_zero_iff (p : Nat → Bool) : ∀ n, setN p n = 0 ↔ ∀ k, k < n → p k = false
  | 0 => ⟨fun _ k h => absurd h (Nat.not_lt_zero k), fun _ => rfl⟩
  | n + 1 => by
    have h2 := Nat.two_pow_pos n
    rw [setN]
    constructor
    · intro h k hk
      by_cases e : k = n
      · subst e
        cases hp : p k with
        | false => rfl
        | true => rw [hp, if_pos rfl] at h; omega
      · exact (setN_zero_iff p n).1 (by omega) k (by omega)
    · intro h
      rw [(setN_zero_iff p n).2 fun k hk => h k (by omega), h n (by omega)]; rfl

/-- g differs from f in the cell of this number. -/
def dfB (C : Nat) (f g : Nat → Nat → Int) (k : Nat) : Bool := g (k / C) (k % C) != f (k / C) (k % C)
/-- The changed cells. -/
def chgN (R C : Nat) (f g : Nat → Nat → Int) : Nat := setN (dfB C f g) (R * C)
/-- g is as f in these cells. -/
def agB (C : Nat) (f g : Nat → Nat → Int) (l : List Int) : Bool := l.all fun k => !dfB C f g k.toNat
/-- The images with the sums of f. -/
def simL (R C : Nat) (f : Nat → Nat → Int) : List (List (List Int)) := allL (rowsL R C f) (rowsL C R (trM f))
def chgs (R C : Nat) (f : Nat → Nat → Int) : List Int := (simL R C f).map fun o => ((chgN R C f (cellM o) : Nat) : Int)
def hasI (s k : Int) : Bool := hasN s.toNat k.toNat
/-- What is left of the changes that touch none of these cells. -/
def agS (s l : List Int) : List Int := s.filter fun x => !(l.any fun k => hasI x k)
def agL (R C : Nat) (f : Nat → Nat → Int) (l : List Int) : List (List (List Int)) := (simL R C f).filter fun o => agB C f (cellM o) l
theorem filter_mapB {α β : Type} (u : α → β) (p : β → Bool) (q : α → Bool) : ∀ l : List α, (∀ x ∈ l, p (u x) = q x) → (l.map u).filter p = (l.filter q).map u
  | [], _ => rfl
  | x :: l, h => by
    rw [List.map_cons, List.filter_cons, List.filter_cons, h x List.mem_cons_self, filter_mapB u p q l fun y hy => h y (List.mem_cons_of_mem x hy)]
    cases q x <;> rfl
theorem ag_one {R C : Nat} {f g : Nat → Nat → Int} {l : List Int} (hl : ∀ k ∈ l, 0 ≤ k ∧ k < (R * C : Nat)) : (!(l.any fun k => hasI ((chgN R C f g : Nat) : Int) k)) = agB C f g l := by
  unfold agB
  induction l with
  | nil => rfl
  | cons k l ih =>
    rw [List.any_cons, List.all_cons, Bool.not_or, ih fun x hx => hl x (List.mem_cons_of_mem k hx)]
    congr 2
    have hk := hl k List.mem_cons_self
    unfold hasI chgN
    rw [Int.toNat_natCast]
    exact setN_has _ _ _ (by omega)
theorem agS_chgs {R C : Nat} {f : Nat → Nat → Int} {l : List Int} (hl : ∀ k ∈ l, 0 ≤ k ∧ k < (R * C : Nat)) : agS (chgs R C f) l = (agL R C f l).map fun o => ((chgN R C f (cellM o) : Nat) : Int) :=
  filter_mapB _ _ _ _ fun _ _ => ag_one hl
theorem chgs_range {R C : Nat} {f : Nat → Nat → Int} (hR : R ≤ 5) (hC : C ≤ 5) : ∀ x ∈ chgs R C f, 0 ≤ x ∧ x < 33554432 := fun x hx => by
  unfold chgs at hx
  obtain ⟨o, -, rfl⟩ := List.mem_map.1 hx
  have h1 := setN_lt (dfB C f (cellM o)) (R * C)
  have h2 : 2 ^ (R * C) ≤ 2 ^ 25 := Nat.pow_le_pow_right (by decide) (Nat.le_trans (Nat.mul_le_mul hR hC) (by decide))
  unfold chgN
  omega
/-- A list of cells of an image. -/
def revB (m : List (List Int)) (l : List Int) : Bool := okB m && ascB (m.length * widthM m : Nat) l
/-- How many images with the sums of m agree with it in these cells; -1 where that means nothing. -/
def cntAg (m : List (List Int)) (l : List Int) : Int := if revB m l = true then ((agL m.length (widthM m) (cellM m) l).length : Nat) else -1
theorem asc_cells {n : Nat} {l : List Int} (h : ascB (n : Int) l = true) : ∀ k ∈ l, 0 ≤ k ∧ k < (n : Int) := fun k hk => by
  obtain ⟨i, hi, rfl⟩ := List.mem_iff_getElem.1 hk
  have := asc_range h hi
  rw [List.getD_eq_getElem?_getD, List.getElem?_eq_getElem hi, Option.getD_some] at this
  omega
theorem simL_len (R C : Nat) (f : Nat → Nat → Int) (hR : 1 ≤ R ∧ R ≤ 5) (hC : 1 ≤ C ∧ C ≤ 5) : (simL R C f).length ≤ 100000 := by
  refine Nat.le_trans (allL_len _ _ (by unfold rowsL; rw [rowF_len]; exact hC.2)) ?_
  unfold rowsL
  rw [rowF_len]
  exact Nat.le_trans (Nat.pow_le_pow_right (by decide) hR.2) (by decide)
theorem agB_congr {R C : Nat} {f f' g : Nat → Nat → Int} {l : List Int} (hC : 0 < C) (hl : ∀ k ∈ l, 0 ≤ k ∧ k < (R * C : Nat)) (h : ∀ y x, y < R → x < C → f y x = f' y x) : agB C f g l = agB C f' g l := by
  unfold agB
  rw [Bool.eq_iff_iff, List.all_eq_true, List.all_eq_true]
  have key : ∀ k ∈ l, dfB C f g k.toNat = dfB C f' g k.toNat := fun k hk => by
    have := hl k hk
    unfold dfB
    rw [h (k.toNat / C) (k.toNat % C) (Nat.div_lt_of_lt_mul (by rw [Nat.mul_comm]; omega)) (Nat.mod_lt _ hC)]
  exact ⟨fun a k hk => by rw [← key k hk]; exact a k hk, fun a k hk => by rw [key k hk]; exact a k hk⟩
theorem and1_i64 (a : Nat) (h : a < 2 ^ 62) : bits .and .i64 (a : Int) 1 = ((a % 2 : Nat) : Int) := by
  have := (bits_nat .i64 62 (by decide) (fun n h0 h1 => by rw [IntKind.wrap_i64]; omega) a 1 h (by decide)).1
  rw [Nat.and_one_is_mod] at this
  exact this
theorem or_i64 (a n : Nat) (h : a < 2 ^ n) (hn : n < 62) : bits .or .i64 (a : Int) ((2 ^ n : Nat) : Int) = ((a + 2 ^ n : Nat) : Int) := by
  have hp : 2 ^ n < 2 ^ 62 := Nat.pow_lt_pow_right (by decide) hn
  have hc : bits .or .i64 (a : Int) ((2 ^ n : Nat) : Int) = bits .or .i64 ((2 ^ n : Nat) : Int) (a : Int) := by simp only [bits, BitVec.or_comm]
  rw [hc, bits_join .i64 62 (by decide) (fun n h0 h1 => by rw [IntKind.wrap_i64]; omega) n _ _ (Int.natCast_nonneg _) (by simp) (by exact_mod_cast hp) (Int.natCast_nonneg _) (by exact_mod_cast h) (by exact_mod_cast Nat.lt_trans h hp)]
  omega
theorem pow_wrap25 : ∀ N : Nat, N < 25 → wrap64 ((2 : Int) ^ N) = ((2 ^ N : Nat) : Int) := by decide +kernel
end Go.Proofs.YtjnnoabaepmcnaaGreat
/-
  PURE: each image with given sums is listed once.
-/
namespace Go.Proofs.YtjnnoabaepmcnaaGreat
open Go

theorem map_cons_neR {α : Type} (x : α) (l : List (List α)) (h : l.Pairwise (· ≠ ·)) : (l.map (x :: ·)).Pairwise (· ≠ ·) := by
  rw [List.pairwise_map]
  exact h.imp fun hne e => hne (List.cons.inj e).2

theorem rowsLn_neR : ∀ (n : Nat) (k : Int), (rowsLn n k).Pairwise (· ≠ ·)
  | 0, k => by
    unfold rowsLn
    split
    · exact List.pairwise_singleton _ _
    · exact List.Pairwise.nil
  | n + 1, k => by
    unfold rowsLn
    rw [List.pairwise_append]
    refine ⟨?_, ?_, fun a ha b hb e => ?_⟩
    · split
      · exact map_cons_neR 0 _ (rowsLn_neR n k)
      · exact List.Pairwise.nil
    · split
      · exact map_cons_neR 1 _ (rowsLn_neR n (k - 1))
      · exact List.Pairwise.nil
    · subst e
      split at ha
      · obtain ⟨u, -, rfl⟩ := List.mem_map.1 ha
        split at hb
        · obtain ⟨v, -, e⟩ := List.mem_map.1 hb
          have := (List.cons.inj e).1
          cases this
        · cases hb
      · cases ha

/-- Each image once. -/
theorem allL_neR : ∀ (r c : List Int), (allL r c).Pairwise (· ≠ ·)
  | [], c => by
    unfold allL
    exact List.pairwise_singleton _ _
  | a :: r, c => by
    unfold allL
    rw [List.pairwise_flatMap]
    refine ⟨fun row _ => ?_, (rowsLn_neR c.length a).imp fun hne x hx y hy e => hne ?_⟩
    · split
      · exact map_cons_neR row _ (allL_neR r _)
      · exact List.Pairwise.nil
    · subst e
      split at hx
      · obtain ⟨u, -, rfl⟩ := List.mem_map.1 hx
        split at hy
        · obtain ⟨v, -, e⟩ := List.mem_map.1 hy
          exact (List.cons.inj e).1.symm
        · cases hy
      · cases hx

end Go.Proofs.YtjnnoabaepmcnaaGreat
/-
  PURE: the least list of cells that is enough.
-/
namespace Go.Proofs.YtjnnoabaepmcnaaGreat
open Go.RowKit

/-- The first value of g at k, k + 1 .., m of them. -/
def goS {α : Type} (g : Nat → Option α) : Nat → Nat → Option α
  | 0, _ => none
  | m + 1, k => match g k with
    | some o => some o
    | none => goS g m (k + 1)
theorem goS_miss {α : Type} {g : Nat → Option α} : ∀ {m k : Nat}, (∀ t, k ≤ t → t < k + m → g t = none) → goS g m k = none
  | 0, _, _ => rfl
  | m + 1, k, h => by
    unfold goS
    rw [h k (Nat.le_refl _) (by omega)]
    exact goS_miss fun t h1 h2 => h t (by omega) (by omega)
theorem goS_hit {α : Type} {g : Nat → Option α} {o : α} : ∀ {m k j : Nat}, j < m → (∀ t, k ≤ t → t < k + j → g t = none) → g (k + j) = some o → goS g m k = some o
  | m + 1, k, 0, _, _, h => by
    rw [Nat.add_zero] at h
    unfold goS
    rw [h]
  | m + 1, k, j + 1, hj, hn, h => by
    unfold goS
    rw [hn k (Nat.le_refl _) (by omega)]
    exact goS_hit (j := j) (by omega) (fun t h1 h2 => hn t (by omega) (by omega)) (by rw [show k + 1 + j = k + (j + 1) by omega]; exact h)
theorem goS_none {α : Type} {g : Nat → Option α} : ∀ {m k : Nat}, goS g m k = none → ∀ t, k ≤ t → t < k + m → g t = none
  | 0, _, _, t, h1, h2 => by omega
  | m + 1, k, h, t, h1, h2 => by
    unfold goS at h
    cases hg : g k with
    | some o => rw [hg] at h; cases h
    | none =>
      rw [hg] at h
      by_cases e : t = k
      · rw [e]; exact hg
      · exact goS_none h t (by omega) (by omega)
theorem goS_more {α : Type} {g : Nat → Option α} {o : α} : ∀ {m k : Nat}, goS g m k = some o → goS g (m + 1) k = some o
  | m + 1, k, h => by
    unfold goS at h ⊢
    cases hg : g k with
    | some p => rw [hg] at h; exact h
    | none =>
      rw [hg] at h
      exact goS_more h

/-- The least list of so many further cells, from first on, that is enough. -/
def srch (en : List Int → Bool) (N : Nat) : Nat → List Int → Nat → Option (List Int)
  | 0, d, _ => if en d = true then some d else none
  | n + 1, d, first => goS (fun k => srch en N n (d ++ [(k : Int)]) (k + 1)) (N - first) first
/-- The same over the changes that are left. -/
def srchP (N : Nat) : Nat → List Int → Nat → Option (List Int)
  | 0, s, _ => if s.length = 1 then some [] else none
  | n + 1, s, first => goS (fun k => (srchP N n (agS s [(k : Int)]) (k + 1)).map ((k : Int) :: ·)) (N - first) first
theorem goS_map {α β : Type} (u : α → β) {g : Nat → Option α} {g' : Nat → Option β} : ∀ {m k : Nat}, (∀ t, k ≤ t → t < k + m → g' t = (g t).map u) → goS g' m k = (goS g m k).map u
  | 0, _, _ => rfl
  | m + 1, k, h => by
    unfold goS
    rw [h k (Nat.le_refl _) (by omega)]
    cases g k with
    | some o => rfl
    | none => exact goS_map u fun t h1 h2 => h t (by omega) (by omega)
theorem agS_app (s d l : List Int) : agS (agS s d) l = agS s (d ++ l) := by
  unfold agS
  rw [List.filter_filter]
  refine List.filter_congr fun x _ => ?_
  rw [List.any_append, Bool.not_or, Bool.and_comm]
theorem srch_eq {en : List Int → Bool} {N : Nat} {s0 : List Int} (hen : ∀ d : List Int, (∀ k ∈ d, 0 ≤ k ∧ k < (N : Int)) → en d = ((agS s0 d).length == 1)) : ∀ (n : Nat) (d : List Int) (first : Nat), (∀ k ∈ d, 0 ≤ k ∧ k < (N : Int)) → srch en N n d first = (srchP N n (agS s0 d) first).map (d ++ ·)
  | 0, d, _, hd => by
    unfold srch srchP
    rw [hen d hd]
    by_cases h : (agS s0 d).length = 1
    · rw [if_pos h, if_pos (by simpa using h)]; simp
    · rw [if_neg h, if_neg (by simpa using h)]; rfl
  | n + 1, d, first, hd => by
    unfold srch srchP
    refine goS_map (d ++ ·) fun t h1 h2 => ?_
    rw [srch_eq hen n (d ++ [(t : Int)]) (t + 1) fun k hk => by
      rcases List.mem_append.1 hk with h | h
      · exact hd k h
      · rw [List.mem_singleton.1 h]; omega]
    rw [agS_app]
    cases srchP N n (agS s0 (d ++ [(t : Int)])) (t + 1) with
    | none => rfl
    | some o => simp
theorem goS_some {α : Type} {g : Nat → Option α} {o : α} : ∀ {m k : Nat}, goS g m k = some o → ∃ t, g t = some o
  | m + 1, k, h => by
    unfold goS at h
    cases hg : g k with
    | some p => rw [hg] at h; exact ⟨k, by rw [hg]; exact h⟩
    | none =>
      rw [hg] at h
      exact goS_some h
theorem goS_at {α : Type} {g : Nat → Option α} {o : α} : ∀ {m k : Nat}, goS g m k = some o → ∃ t, (k ≤ t ∧ t < k + m) ∧ g t = some o
  | m + 1, k, h => by
    unfold goS at h
    cases hg : g k with
    | some p => rw [hg] at h; exact ⟨k, ⟨Nat.le_refl _, by omega⟩, by rw [hg]; exact h⟩
    | none =>
      rw [hg] at h
      obtain ⟨t, ⟨h1, h2⟩, h3⟩ := goS_at h
      exact ⟨t, ⟨by omega, by omega⟩, h3⟩
theorem srchP_len {N : Nat} : ∀ (n : Nat) (s : List Int) (first : Nat) (o : List Int), srchP N n s first = some o → o.length = n
  | 0, s, first, o, h => by
    unfold srchP at h
    split at h
    · cases h; rfl
    · cases h
  | n + 1, s, first, o, h => by
    unfold srchP at h
    obtain ⟨t, ht⟩ := goS_some h
    cases hr : srchP N n (agS s [(t : Int)]) (t + 1) with
    | none => rw [hr] at ht; cases ht
    | some o2 =>
      rw [hr] at ht
      cases ht
      rw [List.length_cons, srchP_len n _ _ o2 hr]
/-- The numbers from a on. -/
def upto (a n : Nat) : List Int := (List.range' a n).map Int.ofNat
theorem upto_succ (a n : Nat) : upto a (n + 1) = (a : Int) :: upto (a + 1) n := by
  unfold upto
  rw [List.range'_succ]; rfl
theorem srch_some {en : List Int → Bool} {N : Nat} : ∀ (n : Nat) (d : List Int) (first : Nat), first + n ≤ N → en (d ++ upto first n) = true → srch en N n d first ≠ none
  | 0, d, _, _, h => by
    unfold srch
    rw [show upto _ 0 = [] from rfl, List.append_nil] at h
    rw [if_pos h]; simp
  | n + 1, d, first, hN, h => by
    intro e
    unfold srch at e
    have h1 := goS_none e first (Nat.le_refl _) (by omega)
    refine srch_some n (d ++ [(first : Int)]) (first + 1) (by omega) ?_ h1
    rw [upto_succ] at h
    rw [List.append_assoc]; exact h
/-- Whether a list of cells is enough. -/
def enB (R C : Nat) (f : Nat → Nat → Int) (l : List Int) : Bool := (agL R C f l).length == 1
theorem en_chgs {R C : Nat} {f : Nat → Nat → Int} (d : List Int) (hd : ∀ k ∈ d, 0 ≤ k ∧ k < ((R * C : Nat) : Int)) : enB R C f d = ((agS (chgs R C f) d).length == 1) := by
  unfold enB
  rw [agS_chgs hd, List.length_map]
/-- The least list that is enough. -/
def leastR (R C : Nat) (f : Nat → Nat → Int) : Option (List Int) := goS (fun n => srch (enB R C f) (R * C) n [] 0) (R * C) 0
theorem filter_one {α : Type} (p : α → Bool) (a : α) : ∀ l : List α, l.Pairwise (· ≠ ·) → a ∈ l → (∀ x ∈ l, p x = true ↔ x = a) → (l.filter p).length = 1
  | [], _, h, _ => by cases h
  | x :: l, hp, ha, h => by
    rw [List.pairwise_cons] at hp
    rw [List.filter_cons]
    by_cases e : x = a
    · rw [if_pos ((h x List.mem_cons_self).2 e), List.length_cons]
      have : l.filter p = [] := by
        rw [List.filter_eq_nil_iff]
        intro y hy hpy
        have := (h y (List.mem_cons_of_mem x hy)).1 hpy
        exact hp.1 y hy (by rw [e, this])
      rw [this]; rfl
    · have hx : ¬ p x = true := fun hpx => e ((h x List.mem_cons_self).1 hpx)
      rw [if_neg hx]
      exact filter_one p a l hp.2 ((List.mem_cons.1 ha).resolve_left fun e2 => e e2.symm) fun y hy => h y (List.mem_cons_of_mem x hy)
theorem cnt_last {p q : Nat → Bool} {n : Nat} (h : ∀ i, i < n → p i = q i) (hc : cnt p (n + 1) = cnt q (n + 1)) : p n = q n := by
  rw [cnt, cnt, cnt_congr h] at hc
  cases hp : p n <;> cases hq : q n <;> simp [hp, hq] at hc ⊢
theorem mem_upto {a n : Nat} {x : Int} : x ∈ upto a n ↔ ∃ i : Nat, x = i ∧ a ≤ i ∧ i < a + n := by
  unfold upto
  rw [List.mem_map]
  constructor
  · rintro ⟨i, hi, rfl⟩
    rw [List.mem_range'_1] at hi
    exact ⟨i, rfl, hi.1, hi.2⟩
  · rintro ⟨i, rfl, h1, h2⟩
    exact ⟨i, List.mem_range'_1.2 ⟨h1, h2⟩, rfl⟩
/-- All cells but the last are enough: the sums say what the last one is. -/
theorem en_last {R C : Nat} {f : Nat → Nat → Int} (hI : Img R C f) : enB R C f (upto 0 (R * C - 1)) = true := by
  have hR1 := hI.r1; have hC1 := hI.c1
  obtain ⟨N, hN⟩ : ∃ N, R * C = N + 1 := ⟨R * C - 1, by have : 1 * 1 ≤ R * C := Nat.mul_le_mul hR1 hC1; omega⟩
  unfold enB agL
  rw [beq_iff_eq]
  refine filter_one _ (mkM R C f) _ (allL_neR _ _) (mem_I hI hI ⟨fun _ _ => rfl, fun _ _ => rfl⟩) fun o ho => ?_
  obtain ⟨hmk, hJ, hs⟩ := allL_I hI ho
  constructor
  · intro h
    rw [hmk]
    refine mkM_congr fun y x hy hx => ?_
    have key : ∀ y x, y < R → x < C → y * C + x < N → cellM o y x = f y x := fun y x hy hx hlt => by
      unfold agB at h
      rw [List.all_eq_true] at h
      have := h ((y * C + x : Nat) : Int) (mem_upto.2 ⟨_, rfl, Nat.zero_le _, by omega⟩)
      rw [Int.toNat_natCast] at this
      have hd : dfB C f (cellM o) (y * C + x) = (cellM o y x != f y x) := by
        unfold dfB
        rw [show (y * C + x) / C = y by rw [Nat.mul_comm, Nat.mul_add_div (by omega), Nat.div_eq_of_lt hx, Nat.add_zero], show (y * C + x) % C = x by rw [Nat.mul_comm, Nat.mul_add_mod, Nat.mod_eq_of_lt hx]]
      rw [hd] at this
      simpa using this
    by_cases hlt : y * C + x < N
    · exact key y x hy hx hlt
    · have hyR : (y + 1) * C ≤ R * C := Nat.mul_le_mul_right C hy
      rw [Nat.add_mul, Nat.one_mul] at hyR
      have hxC : x = C - 1 := by omega
      obtain ⟨c, rfl⟩ : ∃ c, C = c + 1 := ⟨C - 1, by omega⟩
      have hxc : x = c := by omega
      subst hxc
      have hr := hs.1 y hy
      unfold rs at hr
      have hl := cnt_last (fun i hi => by
        rw [key y i hy (by omega) (by omega)]) hr
      have hl2 : (cellM o y x == 1) = (f y x == 1) := hl
      rcases hJ.cell y x hy hx with e1 | e1
      · rcases hI.cell y x hy hx with e2 | e2
        · rw [e1, e2]
        · rw [e1, e2] at hl2; exact absurd hl2 (by decide)
      · rcases hI.cell y x hy hx with e2 | e2
        · rw [e1, e2] at hl2; exact absurd hl2 (by decide)
        · rw [e1, e2]
  · intro h
    unfold agB
    rw [List.all_eq_true]
    intro k hk
    obtain ⟨i, rfl, -, hi⟩ := mem_upto.1 hk
    rw [Int.toNat_natCast]
    have hy : i / C < R := Nat.div_lt_of_lt_mul (by rw [Nat.mul_comm]; omega)
    have hx : i % C < C := Nat.mod_lt _ (by omega)
    unfold dfB
    rw [h, cell_mk R C f hy hx, bne_self_eq_false]; rfl
theorem leastR_some {R C : Nat} {f : Nat → Nat → Int} (hI : Img R C f) : ∃ o, leastR R C f = some o := by
  cases h : leastR R C f with
  | some o => exact ⟨o, rfl⟩
  | none =>
    exfalso
    have hR1 := hI.r1; have hC1 := hI.c1
    have : 1 * 1 ≤ R * C := Nat.mul_le_mul hR1 hC1
    unfold leastR at h
    refine srch_some (en := enB R C f) (N := R * C) (R * C - 1) [] 0 (by omega) (en_last hI) (goS_none h (R * C - 1) (by omega) (by omega))
/-- What LeastReveal answers. -/
def lrB (m : List (List Int)) : Bool := okB m && decide (m.length ≤ 3) && decide (widthM m ≤ 4)
def lrL (m : List (List Int)) : List Int := if lrB m = true then (leastR m.length (widthM m) (cellM m)).getD [] else []
end Go.Proofs.YtjnnoabaepmcnaaGreat
/-
  Sets of cells in lists: IndexFunc, DeleteFunc, Clone; has; agreeing.
-/
namespace Go.Proofs.YtjnnoabaepmcnaaGreat
open Go.RowKit Go.Shelf

theorem Tryz.infoCS : (Tryz.prog.info? 49).map (fun i => (i.zero, i.size, i.bytes)) = some (some (.int .i64 0), 1, 8) := by kernel_rfl
/-- Sets of the call's own, from lo on. -/
def OwnCS (w : World) (lo : Nat) (v : Value) (s : List Int) : Prop := w.ownsRow lo 49 1 v s.length (ints s)
theorem ownCS_below {w w' : World} {lo : Nat} {v : Value} {s : List Int} (h : OwnCS w lo v s) (hb : Below w.heap.size w w') : OwnCS w' lo v s := own_below h hb
theorem ownCS_in {w : World} {lo : Nat} {v : Value} {s : List Int} (h : OwnCS w lo v s) : InRow w v s := by
  rcases h.2 with ⟨rfl, h0⟩ | ⟨g, cap, cur, rfl, hbg, hg, hc, hm, _⟩
  · exact ⟨none, 0, by rw [h0], by omega, .inl h0⟩
  · refine ⟨_, _, rfl, by omega, .inr ⟨g, 0, rfl, (Array.getElem?_eq_some_iff.1 hg).1, fun i hi => ?_⟩⟩
    rw [Nat.zero_add, World.ownsRow.cellAt h i (by omega)]
    simp [ints, hi]
/-- What the function value answers of a set that meets ok, in whatever world has grown out of W. -/
def SetPred (g : Nat) (cb : Array Value) (ok : Int → Prop) (p : Int → Bool) (W : World) : Prop :=
  ∀ (s : Int) (w : World), ok s → Below W.heap.size W w → Calls Tryz.prog g (#[.int .i64 s] ++ cb) w fun e w' => e = .returned (.bool (p s)) ∧ Below w.heap.size w w'
theorem setPred_mono {g : Nat} {cb : Array Value} {ok : Int → Prop} {p : Int → Bool} {W W' : World} (h : SetPred g cb ok p W) (hb : Below W.heap.size W W') : SetPred g cb ok p W' :=
  fun s w ho hw => h s w ho (hb.trans (hw.mono hb.size))
/-- The place of the first set at which p holds, or -1. -/
def idxS (p : Int → Bool) (s : List Int) : Int := if s.findIdx p < s.length then (s.findIdx p : Nat) else -1
theorem idxS_hit {p : Int → Bool} {s : List Int} {k : Nat} (hk : k < s.length) (h : p s[k] = true) (ha : ∀ t, (ht : t < s.length) → t < k → p s[t] = false) : idxS p s = k := by
  have : s.findIdx p = k := (List.findIdx_eq hk).2 ⟨h, fun j hj => ha j (by omega) hj⟩
  rw [idxS, this, if_pos hk]
theorem idxS_miss {p : Int → Bool} {s : List Int} (ha : ∀ t, (ht : t < s.length) → p s[t] = false) : idxS p s = -1 := by
  rw [idxS, if_neg]
  intro h
  have := List.findIdx_getElem (w := h)
  rw [ha _ h] at this; cases this
theorem idxS_spec (p : Int → Bool) (s : List Int) : (idxS p s = -1 ∧ ∀ t, (ht : t < s.length) → p s[t] = false) ∨ ∃ k : Nat, ∃ hk : k < s.length, idxS p s = k ∧ p s[k] = true ∧ ∀ t, (ht : t < s.length) → t < k → p s[t] = false := by
  by_cases h : s.findIdx p < s.length
  · refine .inr ⟨_, h, by rw [idxS, if_pos h], List.findIdx_getElem (w := h), fun t _ ht => ?_⟩
    have := List.not_of_lt_findIdx ht
    simpa using this
  · refine .inl ⟨by rw [idxS, if_neg h], fun t ht => ?_⟩
    cases hp : p s[t] with
    | false => rfl
    | true => exact absurd (List.findIdx_lt_length_of_exists ⟨_, List.getElem_mem ht, hp⟩) h
set_option maxHeartbeats 1000000 in
theorem idxSets_any (v : Value) (s : List Int) (g : Nat) (cb : Array Value) (ok : Int → Prop) (p : Int → Bool) (w : World) (eg : ∀ args w, (callFunc g args).run Tryz.prog w = .ok (.enter g args) w) (hin : InRow w v s) (hok : ∀ r ∈ s, ok r) (hp : SetPred g cb ok p w) :
    Calls Tryz.prog 59 #[v, .func (.func g) #[] cb] w fun e w' => e = .returned (.int .i64 (idxS p s)) ∧ Below w.heap.size w w' := by
  obtain ⟨a, c, rfl, hm, hpl⟩ := hin
  unfold maxLen at hm
  have HP := hide hp; have HOK := hide hok
  clear hp hok
  by_cases h0 : s.length = 0
  · have hr : s = [] := List.eq_nil_of_length_eq_zero h0
    subst hr
    clear hpl h0 hm
    go_enter Tryz.func59, Tryz.ntmps59
    go_wp2
    go_loop [8] (fun i => i = .int .i64 0) (fun _ => 0)
    case atStart => rfl
    case round =>
      obtain rfl := hrel
      go_wp2
      go_ret
      exact ⟨rfl, Below.refl _ _⟩
  · obtain ⟨b, o, rfl, hg, hc⟩ := hpl.resolve_left h0
    have HC := hide hc; have HG := hide hg
    have HHIT := hide (fun k (hk : k < s.length) => idxS_hit (p := p) hk)
    have HMISS := hide (idxS_miss (p := p) (s := s))
    obtain ⟨n, hn⟩ : ∃ n, n = s.length := ⟨_, rfl⟩
    have HN := hide hn
    rw [← hn] at hm ⊢
    clear hpl hc h0 hn hg
    go_enter Tryz.func59, Tryz.ntmps59
    go_wp2
    go_loopw [8] (fun i w' => ∃ k : Nat, k ≤ n ∧ i = .int .i64 k ∧ (∀ t, (h : t < s.length) → t < k → p s[t] = false) ∧ Below w.heap.size w w') (fun i _ => n - (intOf i).toNat)
    case atStart => exact ⟨0, Nat.zero_le _, rfl, fun t _ h => absurd h (Nat.not_lt_zero _), Below.refl _ _⟩
    case round =>
      obtain ⟨k, hk, rfl, hall, hb⟩ := hrel
      have HA := hide hall; have HB := hide hb
      clear hall hb
      by_cases hlt : k < n
      · have hltI : (k : Int) < n := by omega
        have hk' : k < s.length := by rw [← HN.out]; exact hlt
        have hx := below_cell HB.out HG.out (HC.out k hk')
        have HCALL := hide (HP.out s[k] wr (HOK.out _ (List.getElem_mem hk')) HB.out)
        have HYES : Hid (p s[k] = true → idxS p s = k) := hide fun h => HHIT.out k hk' h HA.out
        have HST : Hid (p s[k] = false → ∀ t, (h : t < s.length) → t < k + 1 → p s[t] = false) := hide fun h t h1 ht => by
          by_cases e : t = k
          · subst e; exact h
          · exact HA.out t h1 (by omega)
        obtain ⟨x, hxx⟩ : ∃ x, x = s[k] := ⟨_, rfl⟩
        rw [← hxx] at hx HCALL HYES HST
        clear hxx
        obtain ⟨q, hq⟩ : ∃ q, q = p x := ⟨_, rfl⟩
        rw [← hq] at HCALL HYES HST
        clear hq
        cases q with
        | true =>
          have HF := hide (HYES.out rfl)
          clear HYES HST
          go_wp2_with (go_at_fn g; refine HCALL.out.mono ?_; rintro e w9 ⟨rfl, hb9⟩; have HB9 := hide (HB.out.trans (hb9.mono HB.out.size)); clear hb9)
          go_ret
          exact ⟨by rw [HF.out]; rfl, HB9.out⟩
        | false =>
          have HS2 := hide (HST.out rfl)
          clear HYES HST
          go_wp2_with (go_at_fn g; refine HCALL.out.mono ?_; rintro e w9 ⟨rfl, hb9⟩; have HB9 := hide (HB.out.trans (hb9.mono HB.out.size)); clear hb9)
          go_roundw
          case rel => exact ⟨k + 1, by omega, by go_num, HS2.out, HB9.out⟩
          case measure => simp [intOf]; omega
      · have HY := hide (HMISS.out fun t h => HA.out t h (by have := HN.out; omega))
        go_wp2
        go_ret
        exact ⟨by rw [HY.out]; rfl, HB.out⟩

/-- What stays of the first j sets. -/
def keptS (p : Int → Bool) (s : List Int) (j : Nat) : List Int := (s.take j).filter fun x => !p x
theorem keptS_yes {p : Int → Bool} {s : List Int} {j : Nat} (hj : j < s.length) (h : p s[j] = false) : keptS p s (j + 1) = keptS p s j ++ [s[j]] := by
  unfold keptS
  rw [List.take_succ_eq_append_getElem hj, List.filter_append]; simp [h]
theorem keptS_no {p : Int → Bool} {s : List Int} {j : Nat} (hj : j < s.length) (h : p s[j] = true) : keptS p s (j + 1) = keptS p s j := by
  unfold keptS
  rw [List.take_succ_eq_append_getElem hj, List.filter_append]; simp [h]
theorem keptS_len (p : Int → Bool) (s : List Int) (j : Nat) : (keptS p s j).length ≤ j := by
  have h1 := List.length_filter_le (fun x => !p x) (s.take j)
  have h2 : (s.take j).length ≤ j := by rw [List.length_take]; omega
  unfold keptS; omega
theorem keptS_start {p : Int → Bool} {s : List Int} {j : Nat} (h : ∀ t, (ht : t < s.length) → t < j → p s[t] = false) : keptS p s j = s.take j := by
  unfold keptS
  rw [List.filter_eq_self]
  intro x hx
  obtain ⟨i, hi, rfl⟩ := List.mem_iff_getElem.1 hx
  rw [List.length_take] at hi
  rw [List.getElem_take, h i (by omega) (by omega)]; rfl
theorem ints_take (l : List Int) (k : Nat) : (ints l).take k = ints (l.take k) := by simp [ints]
/-- Sets that lie from lo on; below, nothing has turned. -/
def SetsRes (lo : Nat) (s : List Int) (w : World) (e : Ending) (w' : World) : Prop := ∃ u, e = .returned u ∧ OwnCS w' lo u s ∧ Below lo w w'
theorem zeroCS_run (w : World) : (zeroValue 49).run Tryz.prog w = .ok (.int .i64 0) w := Tryz.zeroValue49 w
set_option maxHeartbeats 1000000 in
theorem delSets_no (v : Value) (s : List Int) (g : Nat) (cb : Array Value) (ok : Int → Prop) (p : Int → Bool) (lo : Nat) (w : World) (eg : ∀ args w, (callFunc g args).run Tryz.prog w = .ok (.enter g args) w) (hin : OwnCS w lo v s) (hlo : lo ≤ w.heap.size) (hok : ∀ r ∈ s, ok r) (hp : SetPred g cb ok p w)
    (hno : idxS p s = -1) (hall : ∀ t, (ht : t < s.length) → p s[t] = false) :
    Calls Tryz.prog 40 #[v, .func (.func g) #[] cb] w (SetsRes lo (s.filter fun x => !p x) w) := by
  have HI := hide (idxSets_any v s g cb ok p w eg (ownCS_in hin) hok hp)
  have HF : Hid ((s.filter fun x => !p x) = s) := hide (by
    rw [List.filter_eq_self]
    intro x hx
    obtain ⟨i, hi, rfl⟩ := List.mem_iff_getElem.1 hx
    rw [hall i hi]; rfl)
  have HM := hide hin
  have hv : ∃ a n c, v = .slice a n c := by obtain ⟨a, c, rfl, -⟩ := ownCS_in hin; exact ⟨a, _, c, rfl⟩
  obtain ⟨a, n, c, rfl⟩ := hv
  rw [hno] at HI
  clear hin hok hp hno hall eg
  go_enter Tryz.func40, Tryz.ntmps40
  go_wp2_with (go_at_call 59; refine HI.out.mono ?_; rintro e w9 ⟨rfl, hb9⟩; have HB9 := hide hb9; clear hb9)
  go_ret
  exact ⟨_, rfl, by rw [HF.out]; exact ownCS_below HM.out HB9.out, ⟨HB9.out.os, HB9.out.tape, HB9.out.output, HB9.out.size, fun k hk => HB9.out.block k (by omega)⟩⟩
set_option maxRecDepth 100000 in
set_option maxHeartbeats 4000000 in
theorem delSets_yes (v : Value) (s : List Int) (g : Nat) (cb : Array Value) (ok : Int → Prop) (p : Int → Bool) (lo : Nat) (W0 w : World) (eg : ∀ args w, (callFunc g args).run Tryz.prog w = .ok (.enter g args) w) (hin : OwnCS w lo v s) (hW : W0.heap.size ≤ lo) (hbW : Below W0.heap.size W0 w) (hok : ∀ r ∈ s, ok r) (hp : SetPred g cb ok p W0)
    (k : Nat) (hk : k < s.length) (hyes : idxS p s = k) (hat : p s[k] = true) (hall : ∀ t, (ht : t < s.length) → t < k → p s[t] = false) :
    Calls Tryz.prog 40 #[v, .func (.func g) #[] cb] w (SetsRes lo (s.filter fun x => !p x) w) := by
  have HI := hide (idxSets_any v s g cb ok p w eg (ownCS_in hin) hok (setPred_mono hp hbW))
  rw [hyes] at HI
  have hv : w.ownsRow lo 49 1 v s.length (ints s) := hin
  obtain ⟨gb, cap, rfl, hbg, hgl, hcap, hmax, -, -⟩ := own_some hv (by omega)
  have HV := hide hv; have HP := hide hp; have HOK := hide hok
  have HK0 : Hid (keptS p s (k + 1) = s.take k) := hide (by rw [keptS_no hk hat, keptS_start hall])
  have HBW := hide hbW
  obtain ⟨n, hn⟩ : ∃ n, n = s.length := ⟨_, rfl⟩
  have HN := hide hn
  have HALL : Hid (keptS p s n = s.filter fun x => !p x) := hide (by rw [hn, keptS, List.take_length])
  rw [← hn] at HI HV hk hcap ⊢
  unfold maxLen at hmax
  have HBG := hide hbg
  have hne1 : ((k : Int) == -1) = false := beq_eq_false_iff_ne.2 (by omega)
  clear hv hin hp hok hyes hat hall hn hbW
  go_enter Tryz.func40, Tryz.ntmps40
  go_wp2_with (go_at_call 59; refine HI.out.mono ?_; rintro e w9 ⟨rfl, hb9⟩; have HB9 := hide hb9; clear hb9)
  have HL9 : Hid (Below lo w w9) := hide ⟨HB9.out.os, HB9.out.tape, HB9.out.output, HB9.out.size, fun k hk => HB9.out.block k (by omega)⟩
  go_loopw [5, 6, 7] (fun s5 s6 _ w' => ∃ (j : Nat) (ys : List Value), s6 = .int .i64 j ∧ s5 = .int .i64 (keptS p s j).length ∧ j ≤ n ∧ (keptS p s j).length < j ∧ w'.ownsRow lo 49 1 (.slice (some ⟨gb, 0, none⟩) n cap) n ys ∧ ys.take (keptS p s j).length = ints (keptS p s j) ∧ (∀ t, j ≤ t → t < n → ys.getD t undef = (ints s).getD t undef) ∧ Below lo w w') (fun _ s6 _ _ => n - (intOf s6).toNat)
  case atStart =>
    have hl : (s.take k).length = k := by rw [List.length_take]; have := HN.out; omega
    exact ⟨k + 1, ints s, by go_num, by rw [HK0.out, hl], by omega, by rw [HK0.out, hl]; omega, own_below HV.out HB9.out, by rw [HK0.out, hl]; exact ints_take s k, fun _ _ _ => rfl, HL9.out⟩
  case round =>
    clear HL9 HB9 HK0
    obtain ⟨j, ys, rfl, rfl, hj, hij, hown, htake, hrest, hb⟩ := hrel
    have HO := hide hown; have HT := hide htake; have HRE := hide hrest; have HB := hide hb
    have HKY := hide fun h1 h2 => keptS_yes (p := p) (s := s) (j := j) h1 h2
    have HKN := hide fun h1 h2 => keptS_no (p := p) (s := s) (j := j) h1 h2
    obtain ⟨i, hi⟩ : ∃ i, i = (keptS p s j).length := ⟨_, rfl⟩
    have HII := hide hi
    rw [← hi] at HT hij ⊢
    clear hown htake hrest hb hi
    by_cases hlt : j < n
    · have hjm : j < s.length := by rw [← HN.out]; exact hlt
      have hltI : (j : Int) < n := by omega
      have hsz := HB.out.size
      have hx := cell_held HO.out hlt
      rw [HRE.out j (Nat.le_refl _) hlt, show (ints s).getD j undef = .int .i64 s[j] by simp [ints, hjm]] at hx
      have HBO : Hid (Below W0.heap.size W0 wr) := hide (HBW.out.trans (HB.out.mono hW))
      have HCALL := hide (HP.out s[j] wr (HOK.out _ (List.getElem_mem hjm)) HBO.out)
      have HKY2 : Hid (p s[j] = false → keptS p s (j + 1) = keptS p s j ++ [s[j]]) := hide fun h => HKY.out hjm h
      have HKN2 : Hid (p s[j] = true → keptS p s (j + 1) = keptS p s j) := hide fun h => HKN.out hjm h
      obtain ⟨x, hxx⟩ : ∃ x, x = s[j] := ⟨_, rfl⟩
      rw [← hxx] at hx HCALL HKY2 HKN2
      obtain ⟨q, hq⟩ : ∃ q, q = p x := ⟨_, rfl⟩
      rw [← hq] at HKY2 HKN2 HCALL
      clear hq hxx HKY HKN
      cases q with
      | true =>
        have HK2 := hide (HKN2.out rfl)
        clear HKY2 HKN2
        go_wp2_with (go_at_fn g; refine HCALL.out.mono ?_; rintro e w9 ⟨rfl, hb9⟩; have HB9 := hide hb9; clear hb9)
        go_roundw
        case rel =>
          refine ⟨j + 1, ys, by go_num, by rw [HK2.out, ← HII.out], by omega, by rw [HK2.out, ← HII.out]; omega, own_below HO.out HB9.out, by rw [HK2.out, ← HII.out]; exact HT.out, fun t h1 h2 => HRE.out t (by omega) h2, ?_⟩
          exact HB.out.trans (HB9.out.mono (by omega))
        case measure => simp [intOf]; omega
      | false =>
        have HK2 := hide (HKY2.out rfl)
        clear HKY2 HKN2
        go_wp2_with (go_at_fn g; refine HCALL.out.mono ?_; rintro e w9 ⟨rfl, hb9⟩; have HB9 := hide hb9; clear hb9; have HO9 := hide (own_below HO.out HB9.out); have hin' : i < n := (by omega); have hc9 := cell_held HO9.out hin'; have hf9 := HO9.out.frozenAt i; have HS := hide (HO9.out.stored i (.int .i64 x)))
        go_roundw
        case rel =>
          have hyl : ys.length = n := by have := HO.out.1; omega
          have hb9 : Below lo w w9 := HB.out.trans (HB9.out.mono (by omega))
          refine ⟨j + 1, ys.set i (.int .i64 x), by go_num, by rw [HK2.out, List.length_append, ← HII.out]; go_num, by omega, by rw [HK2.out, List.length_append, ← HII.out]; simp; omega, HS.out.1, ?_, fun t h1 h2 => ?_, hb9.setCell (p := ⟨gb, i, none⟩) HBG.out _⟩
          · rw [HK2.out, List.length_append, ← HII.out, show ints (keptS p s j ++ [x]) = ints (keptS p s j) ++ [.int .i64 x] by simp [ints], ← HT.out]
            simp only [List.length_cons, List.length_nil]
            rw [Nat.zero_add, List.take_succ_eq_append_getElem (by rw [List.length_set]; omega), List.take_set_of_le (Nat.le_refl _), List.getElem_set_self]
          · rw [List.getD_eq_getElem?_getD, List.getElem?_set_ne (by omega), ← List.getD_eq_getElem?_getD]
            exact HRE.out t (by omega) h2
        case measure => simp [intOf]; omega
    · obtain rfl : j = n := by omega
      have hcl : ∀ ty, (Builtin.clear_ #[40] ty #[.slice (some ⟨gb, i, none⟩) (j - i) (cap - i)]).run Tryz.prog wr = .ok (.tuple #[]) (wr.setCells gb i (List.replicate (j - i) (.int .i64 0))) :=
        fun ty => Lib.run_clear_slice wr _ _ ty _ Tryz.underlying40 zeroCS_run rfl rfl gb i _ _ (by omega) (fun t ht => by rw [cell_held HO.out (show i + t < j by omega)]; rfl) (fun t ht => HO.out.frozenAt _)
      have HM2 := hide (own_setCells (List.replicate (j - i) (Value.int .i64 0)) i wr ys HO.out)
      obtain ⟨w2, hw2⟩ : ∃ w2, w2 = wr.setCells gb i (List.replicate (j - i) (Value.int .i64 0)) := ⟨_, rfl⟩
      rw [← hw2] at HM2 hcl
      clear hw2
      go_wp2
      go_ret
      obtain ⟨zs, h1, h2, h3⟩ := HM2.out
      have hc := own_cut h1 (show i ≤ j by omega)
      rw [h2, HT.out] at hc
      refine ⟨_, rfl, ?_, ?_⟩
      · unfold OwnCS
        rw [← HALL.out, ← HII.out]; exact hc
      · exact ⟨h3.os.trans HB.out.os, h3.tape.trans HB.out.tape, h3.output.trans HB.out.output, Nat.le_trans HB.out.size h3.size, fun t ht => by
          have := HBG.out
          rw [h3.block t (by have := HB.out.size; omega) (by simp; omega)]; exact HB.out.block t ht⟩
theorem delSets_any (v : Value) (s : List Int) (g : Nat) (cb : Array Value) (ok : Int → Prop) (p : Int → Bool) (lo : Nat) (W0 w : World) (eg : ∀ args w, (callFunc g args).run Tryz.prog w = .ok (.enter g args) w) (hin : OwnCS w lo v s) (hlo : lo ≤ w.heap.size) (hW : W0.heap.size ≤ lo) (hbW : Below W0.heap.size W0 w) (hok : ∀ r ∈ s, ok r) (hp : SetPred g cb ok p W0) :
    Calls Tryz.prog 40 #[v, .func (.func g) #[] cb] w (SetsRes lo (s.filter fun x => !p x) w) := by
  rcases idxS_spec p s with ⟨h1, h2⟩ | ⟨k, hk, h1, h2, h3⟩
  · exact delSets_no v s g cb ok p lo w eg hin hlo hok (setPred_mono hp hbW) h1 h2
  · exact delSets_yes v s g cb ok p lo W0 w eg hin hW hbW hok hp k hk h1 h2 h3
end Go.Proofs.YtjnnoabaepmcnaaGreat
