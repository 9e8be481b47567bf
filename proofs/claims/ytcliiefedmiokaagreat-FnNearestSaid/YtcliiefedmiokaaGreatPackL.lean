/-
  Texts of this claim, one behind the other: Wt, WtOf, DelI, DelR, PushL, RowsS, Subs.
-/
import Derived.Test.YtcliiefedmiokaaGreatPackK
import Derived.Test.YtcliiefedmiokaaGreatPackC
import Derived.Test.YtcliiefedmiokaaGreatPackF
import Derived.Test.YtcliiefedmiokaaGreatPackB
import Derived.Test.YtcliiefedmiokaaGreatPackG
import Derived.Shelf.Slices.Delete
import Derived.Shelf.Slices.Cells
import Derived.Lib.OwnBridge
import Derived.Test.YtcliiefedmiokaaGreatPackD
import Derived.Laws.AppendOwnNone
import Derived.Test.YtcliiefedmiokaaGreatPackJ
/-
  Weights of images: the sum of the weights of the black cells, WeightOk, WeightOf, of the program and of the model.
-/
namespace Go.Proofs.YtcliiefedmiokaaGreat
open Go.RowKit Go.Shelf

/-- The sum of the weights of the black cells. -/
def wtS (R C : Nat) (g f : Nat → Nat → Int) : Int := Mx.S R fun y => Mx.S C fun x => f y x * g y x
structure Wt (R C : Nat) (g : Nat → Nat → Int) : Prop where
  lo : ∀ y x, y < R → x < C → -100 ≤ g y x
  hi : ∀ y x, y < R → x < C → g y x ≤ 100
theorem S_bnd {f : Nat → Int} {b : Int} : ∀ n : Nat, (∀ i, i < n → -b ≤ f i ∧ f i ≤ b) → -(b * n) ≤ Mx.S n f ∧ Mx.S n f ≤ b * n
  | 0, _ => by simp [Mx.S]
  | n + 1, h => by
    have h1 := S_bnd n fun i hi => h i (by omega)
    have h2 := h n (by omega)
    have e : b * ((n + 1 : Nat) : Int) = b * n + b := by rw [show ((n + 1 : Nat) : Int) = (n : Int) + 1 by omega, Int.mul_add, Int.mul_one]
    simp only [Mx.S]
    omega
theorem wt_row {R C : Nat} {g f : Nat → Nat → Int} (hW : Wt R C g) (hI : Img R C f) {y x : Nat} (hy : y < R) (hx : x ≤ C) : -500 ≤ Mx.S x (fun i => f y i * g y i) ∧ Mx.S x (fun i => f y i * g y i) ≤ 500 := by
  have hC := hI.c2
  have := S_bnd (f := fun i => f y i * g y i) (b := 100) x fun i hi => by
    have h1 := hW.lo y i hy (by omega)
    have h2 := hW.hi y i hy (by omega)
    rcases hI.cell y i hy (by omega) with e | e
    · rw [e, Int.zero_mul]; omega
    · rw [e, Int.one_mul]; omega
  omega
theorem wt_all {R C : Nat} {g f : Nat → Nat → Int} (hW : Wt R C g) (hI : Img R C f) {y : Nat} (hy : y ≤ R) : -2500 ≤ Mx.S y (fun j => Mx.S C fun i => f j i * g j i) ∧ Mx.S y (fun j => Mx.S C fun i => f j i * g j i) ≤ 2500 := by
  have hR := hI.r2
  have := S_bnd (f := fun j => Mx.S C fun i => f j i * g j i) (b := 500) y fun i hi => wt_row hW hI (by omega) (Nat.le_refl C)
  omega
theorem sizeB_mk {k : List (List Int)} {R C : Nat} {lo hi : Int} (h : sizeB k R C lo hi = true) : k = mkM R C (cellM k) ∧ ∀ y x, y < R → x < C → lo ≤ cellM k y x ∧ cellM k y x ≤ hi := by
  rw [sizeB, Bool.and_eq_true, beq_iff_eq] at h
  obtain ⟨h1, h2⟩ := h
  have hr : ∀ i, (hi' : i < k.length) → k[i].length = C ∧ ∀ j, (hj : j < k[i].length) → lo ≤ k[i][j] ∧ k[i][j] ≤ hi := fun i hi' => by
    have := List.all_eq_true.1 h2 _ (List.getElem_mem hi')
    rw [sizeRow, Bool.and_eq_true, beq_iff_eq] at this
    refine ⟨this.1, fun j hj => ?_⟩
    have := List.all_eq_true.1 this.2 _ (List.getElem_mem hj)
    simpa using this
  have hc : ∀ y x, (hy : y < k.length) → (hx : x < k[y].length) → cellM k y x = k[y][x] := fun y x hy hx => by
    simp [cellM, List.getD_eq_getElem?_getD, hy, hx]
  refine ⟨?_, fun y x hy hx => ?_⟩
  · refine List.ext_getElem (by rw [mkM_len, h1]) fun i hi1 hi2 => ?_
    rw [mkM_at]
    refine List.ext_getElem (by rw [rowF_len, (hr i hi1).1]) fun j hj1 hj2 => ?_
    rw [rowF_at, hc i j hi1 hj1]
  · have hy' : y < k.length := by omega
    have hx' : x < k[y].length := by rw [(hr y hy').1]; exact hx
    rw [hc y x hy' hx']
    exact (hr y hy').2 x hx'
theorem sizeB_wt {k : List (List Int)} {R C : Nat} (h : sizeB k R C (-100) 100 = true) : k = mkM R C (cellM k) ∧ Wt R C (cellM k) := by
  obtain ⟨h1, h2⟩ := sizeB_mk h
  exact ⟨h1, fun y x hy hx => (h2 y x hy hx).1, fun y x hy hx => (h2 y x hy hx).2⟩
theorem anyNotW {α : Type} (p : α → Bool) (r : List α) : (!r.any fun x => !p x) = r.all p := by
  induction r with
  | nil => rfl
  | cons x r ih => rw [List.any_cons, List.all_cons, ← ih]; cases p x <;> simp
theorem wtS_congr {R C : Nat} {g g' f f' : Nat → Nat → Int} (hg : ∀ y x, y < R → x < C → g y x = g' y x) (hf : ∀ y x, y < R → x < C → f y x = f' y x) : wtS R C g f = wtS R C g' f' :=
  Mx.S_congr R fun y hy => Mx.S_congr C fun x hx => by rw [hg y x hy hx, hf y x hy hx]

set_option maxRecDepth 100000 in
set_option maxHeartbeats 1000000 in
theorem blackWeight_any (vk vm : Value) (R C : Nat) (g f : Nat → Nat → Int) (w : World) (hk : InMat w vk (mkM R C g)) (hm : InMat w vm (mkM R C f)) (hI : Img R C f) (hW : Wt R C g) :
    Calls Tryz.prog 71 #[vk, vm] w fun e w' => e = .returned (.int .i64 (wtS R C g f)) ∧ w = w' := by
  have hR1 := hI.r1; have hC1 := hI.c1; have hR := hI.r2; have hC := hI.c2
  obtain ⟨ga, oa, ca, rfl, hga, hca⟩ := inMat_img hk (by omega) (by omega)
  obtain ⟨gb, ob, cb, rfl, hgb, hcb⟩ := inMat_img hm (by omega) (by omega)
  have HA := hide hca; have HB := hide hcb; have HI := hide hI; have HW := hide hW
  have HE : Hid (wtS R C g f = Mx.S R fun j => Mx.S C fun i => f j i * g j i) := hide rfl
  rw [HE.out]
  have HZ : Hid ((0 : Int) = Mx.S 0 fun j => Mx.S C fun i => f j i * g j i) := hide rfl
  clear hk hm hI hW hca hcb HE
  go_enter Tryz.func71, Tryz.ntmps71
  go_wp2
  go_loop [5, 12] (fun s i => ∃ y : Nat, y ≤ R ∧ i = .int .i64 y ∧ s = .int .i64 (Mx.S y fun j => Mx.S C fun i => f j i * g j i)) (fun _ i => R - (intOf i).toNat)
  case atStart => exact ⟨0, by omega, rfl, by rw [← HZ.out]⟩
  case round =>
    obtain ⟨y, hy, rfl, rfl⟩ := hrel
    by_cases hlt : y < R
    · have hyI : (y : Int) < R := by omega
      obtain ⟨g', o', c', hx, hg', hcc⟩ := HB.out y hlt
      obtain ⟨g2, o2, c2, hx2, hg2, hc2⟩ := HA.out y hlt
      have HCC := hide hcc; have HC2 := hide hc2
      have hb := wt_all HW.out HI.out hy
      have HST := hide (show (Mx.S (y + 1) fun j => Mx.S C fun i => f j i * g j i) = (Mx.S y fun j => Mx.S C fun i => f j i * g j i) + Mx.S C fun i => f y i * g y i from rfl)
      obtain ⟨T, hT⟩ : ∃ T, T = Mx.S y fun j => Mx.S C fun i => f j i * g j i := ⟨_, rfl⟩
      rw [← hT] at hb HST ⊢
      obtain ⟨hb1, hb2⟩ := hb
      have HZ0 : Hid (T = T + Mx.S 0 fun i => f y i * g y i) := hide (by simp [Mx.S])
      clear hcc hc2 hT
      go_wp2
      go_loop [5, 19] (fun s i => ∃ x : Nat, x ≤ C ∧ i = .int .i64 x ∧ s = .int .i64 (T + Mx.S x fun i => f y i * g y i)) (fun _ i => C - (intOf i).toNat)
      case atStart => exact ⟨0, by omega, rfl, by rw [← HZ0.out]⟩
      case round =>
        obtain ⟨x, hxx, rfl, rfl⟩ := hrel
        by_cases hlx : x < C
        · have hxI : (x : Int) < C := by omega
          have hz := HCC.out x hlx
          have hz2 := HC2.out x hlx
          obtain ⟨b1, b2⟩ := wt_row HW.out HI.out hlt hxx
          have b3 := HW.out.lo y x hlt hlx
          have b4 := HW.out.hi y x hlt hlx
          have HS1 := hide (show (Mx.S (x + 1) fun i => f y i * g y i) = (Mx.S x fun i => f y i * g y i) + f y x * g y x from rfl)
          obtain ⟨U, hU⟩ : ∃ U, U = Mx.S x fun i => f y i * g y i := ⟨_, rfl⟩
          rw [← hU] at b1 b2 HS1 ⊢
          have h01 := HI.out.cell y x hlt hlx
          obtain ⟨s, hs⟩ : ∃ s, s = f y x := ⟨_, rfl⟩
          obtain ⟨t, ht⟩ : ∃ t, t = g y x := ⟨_, rfl⟩
          rw [← hs, ← ht] at HS1
          rw [← hs] at hz h01
          rw [← ht] at hz2 b3 b4
          clear hs ht hU
          rcases h01 with rfl | rfl
          · have HS2 := hide (show (Mx.S (x + 1) fun i => f y i * g y i) = U by rw [HS1.out, Int.zero_mul, Int.add_zero])
            clear HS1
            go_wp2
            go_round
            case rel => exact ⟨x + 1, by omega, by go_num, by rw [HS2.out]⟩
            case measure => simp [intOf]; omega
          · have HS2 := hide (show (Mx.S (x + 1) fun i => f y i * g y i) = U + t by rw [HS1.out, Int.one_mul])
            clear HS1
            go_wp2
            go_round
            case rel => exact ⟨x + 1, by omega, by go_num, by rw [HS2.out, Int.add_assoc]⟩
            case measure => simp [intOf]; omega
        · obtain rfl : x = C := by omega
          go_wp2
          go_round
          case rel => exact ⟨y + 1, by omega, by go_num, by rw [HST.out]⟩
          case measure => simp [intOf]; omega
    · obtain rfl : y = R := by omega
      go_wp2
      go_ret
      exact ⟨rfl, rfl⟩
/-- The sizes and the range of weights. -/
def wtB (k : List (List Int)) (R C : Int) : Bool := sizeOk R C && sizeB k R.toNat C.toNat (-100) 100
theorem within_row (C : Nat) (q : List Int) : (q.length == C && within q 100) = sizeRow C (-100) 100 q := rfl
theorem weightOk1_any (u : Value) (row : List Int) (C : Nat) (q : Nat) (w : World) (hu : InRow w u row) (hC : C ≤ 5) (hq : w.cell? ⟨q, 0, none⟩ = some (.int .i64 C)) :
    Calls Tryz.prog 73 #[u, .pointer (some ⟨q, 0, none⟩)] w fun e w' => e = .returned (.bool (!sizeRow C (-100) 100 row)) ∧ Below w.heap.size w w' := by
  have HN := hide (numbersWithin_any u row 100 w (by omega) hu)
  rw [← within_row]
  obtain ⟨b, hb⟩ : ∃ b, b = within row 100 := ⟨_, rfl⟩
  rw [← hb] at HN ⊢
  obtain ⟨a, c, rfl, hm, -⟩ := hu
  unfold maxLen at hm
  obtain ⟨n, hn⟩ : ∃ n, n = row.length := ⟨_, rfl⟩
  rw [← hn] at HN hm ⊢
  clear hb hn
  by_cases h : n = C
  · subst h
    rw [show (n == n) = true from beq_self_eq_true n]
    go_enter Tryz.func73, Tryz.ntmps73
    go_wp2_with (go_at_call 74; refine HN.out.mono ?_; rintro e w' ⟨rfl, hb9⟩; have HB9 := hide hb9; clear hb9)
    go_ret
    exact ⟨ret_bool (by simp), HB9.out⟩
  · have hne : ((n : Int) != (C : Int)) = true := by simp; omega
    rw [show (n == C) = false from beq_eq_false_iff_ne.2 h]
    go_enter Tryz.func73, Tryz.ntmps73
    go_wp2
    go_ret
    exact ⟨rfl, Below.refl _ _⟩
set_option maxHeartbeats 1000000 in
theorem implWeightOk_any (v : Value) (k : List (List Int)) (R C : Int) (w : World) (hin : InMat w v k) :
    Calls Tryz.prog 30 #[v, .int .i64 R, .int .i64 C] w fun e w' => e = .returned (.bool (wtB k R C)) ∧ Below w.heap.size w w' := by
  obtain ⟨w1, hw1⟩ : ∃ w1, w1 = w.alloc (.cells #[.int .i64 C] 3) := ⟨_, rfl⟩
  have B1 := hide (show Below w.heap.size w w1 by rw [hw1]; exact (Below.refl _ w).alloc (Nat.le_refl _) _)
  have hq : w1.cell? ⟨w.heap.size, 0, none⟩ = some (.int .i64 C) := by rw [hw1]; simp [World.cell?_alloc_new]
  by_cases h1 : 1 ≤ R ∧ R ≤ 5
  · have HR := hide fun w' => sideOk_any R w'
    rw [decide_eq_true h1] at HR
    by_cases h2 : 1 ≤ C ∧ C ≤ 5
    · have HC := hide fun w' => sideOk_any C w'
      rw [decide_eq_true h2] at HC
      have HS : Hid (sizeOk R C = true) := hide (by rw [sizeOk, decide_eq_true h1, decide_eq_true h2]; rfl)
      obtain ⟨r, rfl⟩ : ∃ r : Nat, R = r := ⟨R.toNat, by omega⟩
      obtain ⟨c, rfl⟩ : ∃ c : Nat, C = c := ⟨C.toNat, by omega⟩
      have HM : Hid (wtB k r c = (k.length == r && !k.any fun q => !sizeRow c (-100) 100 q)) := hide (by rw [wtB, HS.out, Bool.true_and, sizeB, Int.toNat_natCast, Int.toNat_natCast, anyNotW])
      have HCN := hide (containsRows_any v k 73 #[.pointer (some ⟨w.heap.size, 0, none⟩)] (fun _ => True) (fun q => !sizeRow c (-100) 100 q) w1 (enters_of Tryz.func73 (by kernel_rfl) rfl) (inMat_below hin B1.out) (fun _ _ => trivial)
        (fun row u w2 _ h2' hu => weightOk1_any u row c w.heap.size w2 hu (by omega) (by rw [below_cell h2' (by rw [hw1]; simp) hq])))
      rw [HM.out]
      obtain ⟨b, hb⟩ : ∃ b, b = k.any fun q => !sizeRow c (-100) 100 q := ⟨_, rfl⟩
      rw [← hb] at HCN ⊢
      obtain ⟨a, ca, rfl, hm, -⟩ := hin
      unfold maxLen at hm
      obtain ⟨K, hK⟩ : ∃ K, K = k.length := ⟨_, rfl⟩
      rw [← hK] at HCN hm ⊢
      clear hb HM hK h1 HS
      by_cases h : K = r
      · subst h
        rw [show (K == K) = true from beq_self_eq_true K]
        go_enter Tryz.func30, Tryz.ntmps30
        go_wp2_with fail
        rw [← hw1]
        clear hw1
        go_wp2_with (first | (with_reducible refine (HR.out _).mono ?_; rintro e w9 ⟨rfl, rfl⟩) | (with_reducible refine (HC.out _).mono ?_; rintro e w9 ⟨rfl, rfl⟩) | (go_at_call 56; refine HCN.out.mono ?_; rintro e w2 ⟨rfl, b2⟩; have B2 := hide b2; clear b2))
        go_ret
        exact ⟨ret_bool (by simp), B1.out.trans (B2.out.mono B1.out.size)⟩
      · have hne : ((K : Int) == (r : Int)) = false := by simp; omega
        rw [show (K == r) = false from beq_eq_false_iff_ne.2 h]
        go_enter Tryz.func30, Tryz.ntmps30
        go_wp2_with fail
        rw [← hw1]
        clear hw1
        go_wp2_with (first | (with_reducible refine (HR.out _).mono ?_; rintro e w9 ⟨rfl, rfl⟩) | (with_reducible refine (HC.out _).mono ?_; rintro e w9 ⟨rfl, rfl⟩))
        go_ret
        exact ⟨rfl, B1.out⟩
    · have HC := hide fun w' => sideOk_any C w'
      rw [decide_eq_false h2] at HC
      have HS : Hid (wtB k R C = false) := hide (by rw [wtB, sizeOk, decide_eq_false h2, Bool.and_false, Bool.false_and])
      rw [HS.out]
      obtain ⟨a, ca, rfl, hm, -⟩ := hin
      generalize k.length = K at *
      clear h1 h2 HS
      go_enter Tryz.func30, Tryz.ntmps30
      go_wp2_with fail
      rw [← hw1]
      clear hw1
      go_wp2_with (first | (with_reducible refine (HR.out _).mono ?_; rintro e w9 ⟨rfl, rfl⟩) | (with_reducible refine (HC.out _).mono ?_; rintro e w9 ⟨rfl, rfl⟩))
      go_ret
      exact ⟨rfl, B1.out⟩
  · have HR := hide fun w' => sideOk_any R w'
    rw [decide_eq_false h1] at HR
    have HS : Hid (wtB k R C = false) := hide (by rw [wtB, sizeOk, decide_eq_false h1, Bool.false_and, Bool.false_and])
    rw [HS.out]
    obtain ⟨a, ca, rfl, hm, -⟩ := hin
    generalize k.length = K at *
    clear h1 HS
    go_enter Tryz.func30, Tryz.ntmps30
    go_wp2_with fail
    rw [← hw1]
    clear hw1
    go_wp2_with (first | (with_reducible refine (HR.out _).mono ?_; rintro e w9 ⟨rfl, rfl⟩))
    go_ret
    exact ⟨rfl, B1.out⟩
end Go.Proofs.YtcliiefedmiokaaGreat
/-
  WeightOf and PricesOk, of the program and of the model.
-/
namespace Go.Proofs.YtcliiefedmiokaaGreat
open Go.RowKit Go.Shelf

def wtOfB (k m : List (List Int)) : Bool := okB m && wtB k m.length (widthM m)
def wtOf (k m : List (List Int)) : Int := if wtOfB k m then wtS m.length (widthM m) (cellM k) (cellM m) else 0
theorem wtB_nat {k : List (List Int)} {R C : Nat} (h : wtB k R C = true) : sizeB k R C (-100) 100 = true := by
  unfold wtB at h
  rw [Bool.and_eq_true, Int.toNat_natCast, Int.toNat_natCast] at h
  exact h.2
theorem ret_tup {n m : Int} {a b : Bool} (h1 : n = m) (h2 : a = b) : Ending.returned (.tuple #[.int .i64 n, .bool a]) = .returned (.tuple #[.int .i64 m, .bool b]) := by rw [h1, h2]

set_option maxHeartbeats 1000000 in
theorem implWeightOf_any (vk vm : Value) (k m : List (List Int)) (w : World) (hk : InMat w vk k) (hm : InMat w vm m) :
    Calls Tryz.prog 29 #[vk, vm] w fun e w' => e = .returned (.tuple #[.int .i64 (wtOf k m), .bool (wtOfB k m)]) ∧ Below w.heap.size w w' := by
  have HOK := hide (implImageOk_any vm m w hm)
  cases h : okB m with
  | false =>
    rw [h] at HOK
    have HF : Hid (wtOfB k m = false) := hide (by rw [wtOfB, h, Bool.false_and])
    have HV : Hid (wtOf k m = 0) := hide (by rw [wtOf, HF.out]; rfl)
    rw [HF.out, HV.out]
    obtain ⟨a, ca, rfl, -, -⟩ := hk
    obtain ⟨b, cb, rfl, -, -⟩ := hm
    generalize m.length = M at *
    generalize k.length = L at *
    clear h HF HV
    go_enter Tryz.func29, Tryz.ntmps29
    go_wp2_with (go_at_call 37; refine HOK.out.mono ?_; rintro e w1 ⟨rfl, rfl⟩)
    exact bodyPost_ret (results_tmp2 rfl _ _ _) rfl ⟨rfl, Below.refl _ _⟩
  | true =>
    rw [h] at HOK
    obtain ⟨R, C, f, rfl, hI⟩ := ok_img h
    have hR1 := hI.r1; have hC1 := hI.c1; have hR := hI.r2; have hC := hI.c2
    have HWT := hide (implWeightOk_any vk k R C w hk)
    have HB : Hid (wtOfB k (mkM R C f) = wtB k R C) := hide (by rw [wtOfB, h, Bool.true_and, mkM_len, width_mkM hR1])
    cases hw : wtB k R C with
    | false =>
      rw [hw] at HWT
      have HF : Hid (wtOfB k (mkM R C f) = false) := hide (by rw [HB.out, hw])
      have HV : Hid (wtOf k (mkM R C f) = 0) := hide (by rw [wtOf, HF.out]; rfl)
      rw [HF.out, HV.out]
      obtain ⟨ak, ck, rfl, -, -⟩ := hk
      obtain ⟨gb, ob, cb, rfl, hgb, hcb⟩ := inMat_img hm (by omega) (by omega)
      obtain ⟨g0, o0, c0, hx0, -⟩ := hcb 0 (by omega)
      rw [Nat.add_zero] at hx0
      generalize k.length = L at *
      clear h hw HB HF HV hcb hI hm
      go_enter Tryz.func29, Tryz.ntmps29
      go_wp2_with (first | (go_at_call 37; refine HOK.out.mono ?_; rintro e w1 ⟨rfl, rfl⟩) | (go_at_call 30; refine HWT.out.mono ?_; rintro e w1 ⟨rfl, b1⟩; have B1 := hide b1; clear b1))
      exact bodyPost_ret (results_tmp2 rfl _ _ _) rfl ⟨rfl, B1.out⟩
    | true =>
      rw [hw] at HWT
      obtain ⟨hkm, hWt⟩ := sizeB_wt (wtB_nat hw)
      have HF : Hid (wtOfB k (mkM R C f) = true) := hide (by rw [HB.out, hw])
      have HV : Hid (wtOf k (mkM R C f) = wtS R C (cellM k) f) := hide (by
        rw [wtOf, HF.out, if_pos rfl, mkM_len, width_mkM hR1]
        exact wtS_congr (fun _ _ _ _ => rfl) fun y x hy hx => cell_mk R C f hy hx)
      rw [HF.out, HV.out]
      have hk2 := hk
      rw [hkm] at hk2
      have HBW := hide fun w1 (b1 : Below w.heap.size w w1) => blackWeight_any vk vm R C (cellM k) f w1 (inMat_below hk2 b1) (inMat_below hm b1) hI hWt
      obtain ⟨S, hS⟩ : ∃ S, S = wtS R C (cellM k) f := ⟨_, rfl⟩
      rw [← hS] at HBW ⊢
      obtain ⟨ak, ck, rfl, -, -⟩ := hk
      obtain ⟨gb, ob, cb, rfl, hgb, hcb⟩ := inMat_img hm (by omega) (by omega)
      obtain ⟨g0, o0, c0, hx0, -⟩ := hcb 0 (by omega)
      rw [Nat.add_zero] at hx0
      generalize k.length = L at *
      clear h hw HB HF HV hcb hI hm hk2 hkm hWt hS
      go_enter Tryz.func29, Tryz.ntmps29
      go_wp2_with (first | (go_at_call 37; refine HOK.out.mono ?_; rintro e w1 ⟨rfl, rfl⟩) | (go_at_call 30; refine HWT.out.mono ?_; rintro e w1 ⟨rfl, b1⟩; have B1 := hide b1; clear b1) | (go_at_call 71; refine (HBW.out _ B1.out).mono ?_; rintro e w2 ⟨rfl, rfl⟩))
      exact bodyPost_ret (results_tmp2 rfl _ _ _) rfl ⟨rfl, B1.out⟩

end Go.Proofs.YtcliiefedmiokaaGreat
/-
  slices.Delete at integers, of a slice that the call owns; owned slices cut, and many of their cells written.
-/
namespace Go.Proofs.YtcliiefedmiokaaGreat
open Go.RowKit Go.Shelf

def Tryz.laysDel_ren : Go.Shelf.Ren := ⟨fun | 23 => 102 | n => n, fun | 22 => 30 | 3 => 3 | 4 => 4 | 0 => 0 | n => n, fun | n => n⟩
theorem Tryz.laysDel : Go.Proofs.Lays2.n23 Tryz.prog Tryz.laysDel_ren := {
  mixed := by kernel_rfl
  f23 := Tryz.func102.trans (congrArg some (by kernel_rfl))
  t0 := Tryz.underlying0
  a0 := Tryz.isAgg0
  z0 := Tryz.sizeOf0
  v0 := Tryz.zeroValue0
  t3 := Tryz.underlying3
  a3 := Tryz.isAgg3
  z3 := Tryz.sizeOf3
  v3 := Tryz.zeroValue3
  t4 := Tryz.underlying4
  a4 := Tryz.isAgg4
  z4 := Tryz.sizeOf4
  v4 := Tryz.zeroValue4
  t22 := Tryz.underlying30
  a22 := Tryz.isAgg30
  z22 := Tryz.sizeOf30
  v22 := Tryz.zeroValue30
  i3 := by kernel_rfl }
theorem delete_any (B : Nat) (v : Value) (r : List Int) (y : Nat) (w : World) (hown : w.ownsRow B 3 1 v r.length (ints r)) (hy : y < r.length) :
    Calls Tryz.prog 102 #[v, .int .i64 y, .int .i64 (y + 1 : Nat)] w fun e w' => ∃ u, e = .returned u ∧ w'.ownsRow B 3 1 u (r.eraseIdx y).length (ints (r.eraseIdx y)) ∧ Below B w w' := by
  have hne : v ≠ .slice none 0 0 := by
    rintro rfl
    rcases hown.2 with ⟨-, h0⟩ | ⟨g, cap, cur, h, _⟩
    · omega
    · cases h
  obtain ⟨g, cap, rfl, hb, hlt, hcap, hm, hl, hH⟩ := Lib.holds_of_ownsRow (enc := Value.int .i64) (zs := r) hown hne
  refine (Any.slices_Delete_int Tryz.laysDel g 0 cap y (y + 1) r w hH hcap hm (by omega) (by omega)).mono ?_
  rintro e w' ⟨rfl, q, rfl⟩
  refine ⟨_, rfl, ?_, Lib.below_putRow (Below.refl _ _) hb⟩
  have h := Lib.ownsRow_putRow (enc := Value.int .i64) (zs := r) (q := q) (k := r.length - 1) (ys := r.take y ++ r.drop (y + 1) ++ List.replicate (y + 1 - y) 0) hown (by simp; omega) (by omega)
  have e1 : (r.take y ++ r.drop (y + 1) ++ List.replicate (y + 1 - y) (0 : Int)).take (r.length - 1) = r.eraseIdx y := by
    rw [List.eraseIdx_eq_take_drop_succ, List.take_append_of_le_length (by simp; omega), List.take_of_length_le (by simp; omega)]
  rw [e1] at h
  rw [show (r.eraseIdx y).length = r.length - 1 from List.length_eraseIdx_of_lt hy, show r.length - (y + 1 - y) = r.length - 1 by omega]
  exact h

/-- The first k elements of an owned slice. -/
theorem own_cut {w : World} {base e g n c k : Nat} {xs : List Value} (h : w.ownsRow base e 1 (.slice (some ⟨g, 0, none⟩) n c) n xs) (hk : k ≤ n) : w.ownsRow base e 1 (.slice (some ⟨g, 0, none⟩) k c) k (xs.take k) := by
  rcases h.2 with ⟨e0, _⟩ | ⟨g', cap', cur, e0, hb, hg, hn, hm, hs, ht⟩
  · cases e0
  · cases e0
    refine ⟨by rw [List.length_take]; have := h.1; omega, .inr ⟨_, _, cur, rfl, hb, hg, by omega, hm, hs, ?_⟩⟩
    rw [← ht, List.take_take]; congr 1; omega
/-- Cells of an owned slice written one behind the other. -/
theorem own_setCells {base e g n c : Nat} : ∀ (zs : List Value) (i : Nat) (w : World) (xs : List Value), w.ownsRow base e 1 (.slice (some ⟨g, 0, none⟩) n c) n xs →
    ∃ ys, (w.setCells g i zs).ownsRow base e 1 (.slice (some ⟨g, 0, none⟩) n c) n ys ∧ ys.take i = xs.take i ∧ w.grownBy (w.setCells g i zs) (some g)
  | [], i, w, xs, h => ⟨xs, h, rfl, rfl, rfl, rfl, Nat.le_refl _, fun _ _ _ => rfl⟩
  | z :: zs, i, w, xs, h => by
    obtain ⟨h1, h2⟩ := h.stored i z
    obtain ⟨ys, g1, g2, g3⟩ := own_setCells zs (i + 1) _ _ h1
    refine ⟨ys, g1, ?_, grown_trans h2 g3⟩
    have : (ys.take (i + 1)).take i = ((xs.set i z).take (i + 1)).take i := by rw [g2]
    rw [List.take_take, List.take_take, Nat.min_eq_left (by omega), List.take_set_of_le (by omega)] at this
    exact this
end Go.Proofs.YtcliiefedmiokaaGreat
/-
  slices.DeleteFunc over rows that the call owns; the predicate may make memory.
-/
namespace Go.Proofs.YtcliiefedmiokaaGreat
open Go.RowKit Go.Shelf

/-- A list of rows that lie from lo on. -/
def MatT (w : World) (lo : Nat) (v : Value) (m : List (List Int)) : Prop :=
  ∃ vs : List Value, w.ownsRow lo 30 1 v m.length vs ∧ ∀ i, (h : i < m.length) → w.ownsRow lo 3 1 (vs.getD i undef) m[i].length (ints m[i])
theorem matT_own {w : World} {lo hi : Nat} {v : Value} {m : List (List Int)} (h : OwnMat w lo hi v m) : MatT w lo v m := by
  obtain ⟨vs, h1, -, h3, -⟩ := h
  exact ⟨vs, h1, fun i hi => (h3 i hi).1⟩
theorem inMat_matT {w : World} {lo : Nat} {v : Value} {m : List (List Int)} (h : MatT w lo v m) : InMat w v m := by
  obtain ⟨vs, ho, hr⟩ := h
  rcases ho.2 with ⟨rfl, h0⟩ | ⟨g, cap, cur, rfl, hbg, hg, hc, hm, _⟩
  · exact ⟨none, 0, by rw [h0], by omega, .inl h0⟩
  · refine ⟨_, _, rfl, by omega, .inr ⟨g, 0, rfl, (Array.getElem?_eq_some_iff.1 hg).1, fun i hi => ⟨vs.getD i undef, ?_, inRow_own (hr i hi)⟩⟩⟩
    rw [Nat.zero_add]; exact cell_held ho hi
theorem matT_below {w w' : World} {lo : Nat} {v : Value} {m : List (List Int)} (h : MatT w lo v m) (hb : Below w.heap.size w w') : MatT w' lo v m := by
  obtain ⟨vs, h1, h2⟩ := h
  exact ⟨vs, own_below h1 hb, fun i hi => own_below (h2 i hi) hb⟩
theorem matT_base {w : World} {lo lo' : Nat} {v : Value} {m : List (List Int)} (h : MatT w lo v m) (hl : lo' ≤ lo) : MatT w lo' v m := by
  obtain ⟨vs, h1, h2⟩ := h
  exact ⟨vs, own_base h1 hl, fun i hi => own_base (h2 i hi) hl⟩
theorem matT_kept {w w' : World} {lo B e n : Nat} {v u : Value} {m : List (List Int)} {xs : List Value} (h : MatT w lo v m) (hu : w.ownsRow B e 1 u n xs) (hg : w.grownBy w' u.ownBlock) (h1 : 30 ≠ e) (h2 : 3 ≠ e) : MatT w' lo v m := by
  obtain ⟨vs, g1, g2⟩ := h
  exact ⟨vs, g1.kept hg (own_types g1 hu h1), fun i hi => (g2 i hi).kept hg (own_types (g2 i hi) hu h2)⟩

/-- The places of the first j rows at which p does not hold. -/
def kept (p : List Int → Bool) (m : List (List Int)) (j : Nat) : List Nat := (List.range j).filter fun t => !p (m.getD t [])
theorem kept_yes {p : List Int → Bool} {m : List (List Int)} {j : Nat} (h : p (m.getD j []) = false) : kept p m (j + 1) = kept p m j ++ [j] := by
  unfold kept
  rw [List.range_succ, List.filter_append]; simp only [List.filter_cons, List.filter_nil, h]; rfl
theorem kept_no {p : List Int → Bool} {m : List (List Int)} {j : Nat} (h : p (m.getD j []) = true) : kept p m (j + 1) = kept p m j := by
  unfold kept
  rw [List.range_succ, List.filter_append]; simp only [List.filter_cons, List.filter_nil, h]; simp
theorem kept_len (p : List Int → Bool) (m : List (List Int)) (j : Nat) : (kept p m j).length ≤ j := by
  have := List.length_filter_le (fun t => !p (m.getD t [])) (List.range j)
  simpa [kept] using this
theorem kept_lt {p : List Int → Bool} {m : List (List Int)} {j t : Nat} (h : t ∈ kept p m j) : t < j := by
  have := (List.mem_filter.1 h).1; simpa using this
theorem kept_all {p : List Int → Bool} {m : List (List Int)} : ∀ {j : Nat}, (∀ t, t < j → p (m.getD t []) = false) → kept p m j = List.range j
  | 0, _ => rfl
  | j + 1, h => by rw [kept_yes (h j (Nat.lt_succ_self _)), kept_all fun t ht => h t (by omega), List.range_succ]
theorem map_range_getD {α : Type} (d : α) (l : List α) (n : Nat) (h : n ≤ l.length) : (List.range n).map (fun t => l.getD t d) = l.take n := by
  apply List.ext_getElem
  · simp; omega
  · intro i h1 h2
    simp at h1
    simp [List.getElem?_eq_getElem (show i < l.length by omega)]
theorem kept_map (p : List Int → Bool) (m : List (List Int)) : (kept p m m.length).map (fun t => m.getD t []) = m.filter fun x => !p x := by
  unfold kept
  have h : m = (List.range m.length).map fun t => m.getD t [] := by rw [map_range_getD _ _ _ (Nat.le_refl _)]; simp
  conv => rhs; rw [h, List.filter_map]
  rfl
theorem idxP_spec (p : List Int → Bool) (m : List (List Int)) : (idxP p m = -1 ∧ ∀ t, t < m.length → p (m.getD t []) = false) ∨ ∃ k : Nat, k < m.length ∧ idxP p m = k ∧ p (m.getD k []) = true ∧ ∀ t, t < k → p (m.getD t []) = false := by
  have hg : ∀ t, (ht : t < m.length) → m.getD t [] = m[t] := fun t ht => by rw [List.getD_eq_getElem?_getD, List.getElem?_eq_getElem ht]; rfl
  by_cases h : m.findIdx p < m.length
  · refine .inr ⟨_, h, by rw [idxP, if_pos h], ?_, fun t ht => ?_⟩
    · rw [hg _ h]; exact List.findIdx_getElem (w := h)
    · rw [hg _ (by omega)]
      have := List.not_of_lt_findIdx ht
      simpa using this
  · refine .inl ⟨by rw [idxP, if_neg h], fun t ht => ?_⟩
    rw [hg _ ht]
    cases hp : p m[t] with
    | false => rfl
    | true => exact absurd (List.findIdx_lt_length_of_exists ⟨_, List.getElem_mem ht, hp⟩) h
/-- What the search finds of rows that are struck and kept. -/
theorem delRows_len (p : List Int → Bool) (m : List (List Int)) : (m.filter fun x => !p x).length = (kept p m m.length).length := by rw [← kept_map, List.length_map]

theorem zeroInts_run (w : World) : (zeroValue 30).run Tryz.prog w = .ok (.slice none 0 0) w := Tryz.zeroValue30 w

/-- Rows that lie from lo on; below, nothing has turned. -/
def RowsRes (lo : Nat) (m : List (List Int)) (w : World) (e : Ending) (w' : World) : Prop := ∃ u, e = .returned u ∧ MatT w' lo u m ∧ Below lo w w'
set_option maxHeartbeats 1000000 in
theorem delRows_no (v : Value) (m : List (List Int)) (g : Nat) (cb : Array Value) (ok : List Int → Prop) (p : List Int → Bool) (lo : Nat) (w : World) (eg : ∀ args w, (callFunc g args).run Tryz.prog w = .ok (.enter g args) w) (hin : MatT w lo v m) (hlo : lo ≤ w.heap.size) (hok : ∀ r ∈ m, ok r) (hp : RowPred g cb ok p w)
    (hno : idxP p m = -1) (hall : ∀ t, t < m.length → p (m.getD t []) = false) :
    Calls Tryz.prog 104 #[v, .func (.func g) #[] cb] w (RowsRes lo (m.filter fun x => !p x) w) := by
  have HI := hide (idxRows_any v m g cb ok p w eg (inMat_matT hin) hok hp)
  have HF : Hid ((m.filter fun x => !p x) = m) := hide (by rw [← kept_map, kept_all hall, map_range_getD _ _ _ (Nat.le_refl _)]; simp)
  have HM := hide hin
  have hv : ∃ a n c, v = .slice a n c := by obtain ⟨a, c, rfl, -⟩ := inMat_matT hin; exact ⟨a, _, c, rfl⟩
  obtain ⟨a, n, c, rfl⟩ := hv
  rw [hno] at HI
  clear hin hok hp hno hall eg
  go_enter Tryz.func104, Tryz.ntmps104
  go_wp2_with (go_at_call 101; refine HI.out.mono ?_; rintro e w9 ⟨rfl, hb9⟩; have HB9 := hide hb9; clear hb9)
  go_ret
  exact ⟨_, rfl, by rw [HF.out]; exact matT_below HM.out HB9.out, ⟨HB9.out.os, HB9.out.tape, HB9.out.output, HB9.out.size, fun k hk => HB9.out.block k (by omega)⟩⟩
set_option maxRecDepth 100000 in
set_option maxHeartbeats 4000000 in
theorem delRows_yes (v : Value) (m : List (List Int)) (g : Nat) (cb : Array Value) (ok : List Int → Prop) (p : List Int → Bool) (lo : Nat) (W0 w : World) (eg : ∀ args w, (callFunc g args).run Tryz.prog w = .ok (.enter g args) w) (hin : MatT w lo v m) (hW : W0.heap.size ≤ lo) (hbW : Below W0.heap.size W0 w) (hok : ∀ r ∈ m, ok r) (hp : RowPred g cb ok p W0)
    (k : Nat) (hk : k < m.length) (hyes : idxP p m = k) (hat : p (m.getD k []) = true) (hall : ∀ t, t < k → p (m.getD t []) = false) :
    Calls Tryz.prog 104 #[v, .func (.func g) #[] cb] w (RowsRes lo (m.filter fun x => !p x) w) := by
  have HI := hide (idxRows_any v m g cb ok p w eg (inMat_matT hin) hok (rowPred_mono hp hbW))
  rw [hyes] at HI
  obtain ⟨vs, hv, hrows⟩ := hin
  obtain ⟨gb, cap, rfl, hbg, hgl, hcap, hmax, -, -⟩ := own_some hv (by omega)
  have HV := hide hv; have HR := hide hrows; have HP := hide hp; have HOK := hide hok
  have HLEN := hide (delRows_len p m)
  have HMAP := hide (kept_map p m)
  have hvl : vs.length = m.length := by have := hv.1; omega
  have hK : kept p m (k + 1) = List.range k := by rw [kept_no hat, kept_all hall]
  have HK0 : Hid ((kept p m (k + 1)).length = k ∧ vs.take k = (kept p m (k + 1)).map fun t => vs.getD t undef) := hide (by
    rw [hK]; exact ⟨by simp, (map_range_getD _ _ _ (by omega)).symm⟩)
  have HBW := hide hbW
  obtain ⟨n, hn⟩ : ∃ n, n = m.length := ⟨_, rfl⟩
  have HN := hide hn
  rw [← hn] at HI HV hk hvl hcap ⊢
  unfold maxLen at hmax
  have HBG := hide hbg
  have hne1 : ((k : Int) == -1) = false := beq_eq_false_iff_ne.2 (by omega)
  clear hv hrows hp hok hyes hat hall hK hn hbW
  go_enter Tryz.func104, Tryz.ntmps104
  go_wp2_with (go_at_call 101; refine HI.out.mono ?_; rintro e w9 ⟨rfl, hb9⟩; have HB9 := hide hb9; clear hb9)
  have HL9 : Hid (Below lo w w9) := hide ⟨HB9.out.os, HB9.out.tape, HB9.out.output, HB9.out.size, fun k hk => HB9.out.block k (by omega)⟩
  go_loopw [5, 6, 7] (fun s5 s6 _ w' => ∃ (j : Nat) (ys : List Value), s6 = .int .i64 j ∧ s5 = .int .i64 (kept p m j).length ∧ j ≤ n ∧ (kept p m j).length < j ∧ w'.ownsRow lo 30 1 (.slice (some ⟨gb, 0, none⟩) n cap) n ys ∧ ys.take (kept p m j).length = ((kept p m j).map fun t => vs.getD t undef) ∧ (∀ t, j ≤ t → t < n → ys.getD t undef = vs.getD t undef) ∧
    (∀ t, (h : t < m.length) → w'.ownsRow lo 3 1 (vs.getD t undef) m[t].length (ints m[t])) ∧ Below lo w w') (fun _ s6 _ _ => n - (intOf s6).toNat)
  case atStart => exact ⟨k + 1, vs, by go_num, by rw [HK0.out.1], by omega, by rw [HK0.out.1]; omega, own_below HV.out HB9.out, by rw [HK0.out.1]; exact HK0.out.2, fun _ _ _ => rfl, fun t h => own_below (HR.out t h) HB9.out, HL9.out⟩
  case round =>
    clear HL9 HB9 HK0
    obtain ⟨j, ys, rfl, rfl, hj, hij, hown, htake, hrest, hrw, hb⟩ := hrel
    have HO := hide hown; have HT := hide htake; have HRE := hide hrest; have HRW := hide hrw; have HB := hide hb
    have HKY := hide fun h => kept_yes (p := p) (m := m) (j := j) h
    have HKN := hide fun h => kept_no (p := p) (m := m) (j := j) h
    obtain ⟨i, hi⟩ : ∃ i, i = (kept p m j).length := ⟨_, rfl⟩
    have HII := hide hi
    rw [← hi] at HT hij ⊢
    clear hown htake hrest hrw hb hi
    by_cases hlt : j < n
    · have hjm : j < m.length := by rw [← HN.out]; exact hlt
      have hltI : (j : Int) < n := by omega
      have hsz := HB.out.size
      have hx := cell_held HO.out hlt
      rw [HRE.out j (Nat.le_refl _) hlt] at hx
      have HROWj := hide (HRW.out j hjm)
      obtain ⟨a, c, hu⟩ := own_slice HROWj.out
      have hmj : m.getD j [] = m[j] := by rw [List.getD_eq_getElem?_getD, List.getElem?_eq_getElem hjm]; rfl
      have HBO : Hid (Below W0.heap.size W0 wr) := hide (HBW.out.trans (HB.out.mono hW))
      have HCALL := hide (HP.out m[j] (vs.getD j undef) wr (HOK.out _ (List.getElem_mem hjm)) HBO.out (inRow_own HROWj.out))
      rw [hmj] at HKY HKN
      have HMJ : Hid (m[j].length = m[j].length) := hide rfl
      obtain ⟨u, hue⟩ : ∃ u, u = vs.getD j undef := ⟨_, rfl⟩
      have HU := hide hue
      rw [← hue] at hx HCALL hu
      obtain ⟨q, hq⟩ : ∃ q, q = p m[j] := ⟨_, rfl⟩
      rw [← hq] at HKY HKN HCALL
      obtain ⟨L, hL⟩ : ∃ L, L = m[j].length := ⟨_, rfl⟩
      rw [← hL] at hu
      clear hq hmj hue hL HMJ
      subst hu
      cases q with
      | true =>
        have HK2 := hide (HKN.out rfl)
        clear HKY HKN
        go_wp2_with (go_at_fn g; refine HCALL.out.mono ?_; rintro e w9 ⟨rfl, hb9⟩; have HB9 := hide hb9; clear hb9)
        go_roundw
        case rel =>
          refine ⟨j + 1, ys, by go_num, by rw [HK2.out, ← HII.out], by omega, by rw [HK2.out, ← HII.out]; omega, own_below HO.out HB9.out, by rw [HK2.out, ← HII.out]; exact HT.out, fun t h1 h2 => HRE.out t (by omega) h2, fun t h => own_below (HRW.out t h) HB9.out, ?_⟩
          exact HB.out.trans (HB9.out.mono (by omega))
        case measure => simp [intOf]; omega
      | false =>
        have HK2 := hide (HKY.out rfl)
        clear HKY HKN
        go_wp2_with (go_at_fn g; refine HCALL.out.mono ?_; rintro e w9 ⟨rfl, hb9⟩; have HB9 := hide hb9; clear hb9; have HO9 := hide (own_below HO.out HB9.out); have hin' : i < n := (by omega); have hc9 := cell_held HO9.out hin'; have hf9 := HO9.out.frozenAt i; have HS := hide (HO9.out.stored i (.slice a L c)))
        go_roundw
        case rel =>
          have hyl : ys.length = n := by have := HO.out.1; omega
          have hb9 : Below lo w w9 := HB.out.trans (HB9.out.mono (by omega))
          refine ⟨j + 1, ys.set i (.slice a L c), by go_num, by rw [HK2.out, List.length_append, ← HII.out]; go_num, by omega, by rw [HK2.out, List.length_append, ← HII.out]; simp; omega, HS.out.1, ?_, fun t h1 h2 => ?_, fun t h => ?_, hb9.setCell (p := ⟨gb, i, none⟩) HBG.out _⟩
          · rw [HK2.out, List.length_append, ← HII.out, List.map_append, ← HT.out, List.map_cons, List.map_nil, ← HU.out]
            simp only [List.length_cons, List.length_nil]
            rw [Nat.zero_add, List.take_succ_eq_append_getElem (by rw [List.length_set]; omega), List.take_set_of_le (Nat.le_refl _), List.getElem_set_self]
          · rw [List.getD_eq_getElem?_getD, List.getElem?_set_ne (by omega), ← List.getD_eq_getElem?_getD]
            exact HRE.out t (by omega) h2
          · have h0 := own_below (HRW.out t h) HB9.out
            exact h0.kept HS.out.2 (own_types h0 HO9.out (by decide))
        case measure => simp [intOf]; omega
    · obtain rfl : j = n := by omega
      have hcl : ∀ ty, (Builtin.clear_ #[22] ty #[.slice (some ⟨gb, i, none⟩) (j - i) (cap - i)]).run Tryz.prog wr = .ok (.tuple #[]) (wr.setCells gb i (List.replicate (j - i) (.slice none 0 0))) :=
        fun ty => Lib.run_clear_slice wr _ _ ty _ Tryz.underlying22 zeroInts_run rfl rfl gb i _ _ (by omega) (fun t ht => by rw [cell_held HO.out (show i + t < j by omega)]; rfl) (fun t ht => HO.out.frozenAt _)
      have HM2 := hide (own_setCells (List.replicate (j - i) (Value.slice none 0 0)) i wr ys HO.out)
      obtain ⟨w2, hw2⟩ : ∃ w2, w2 = wr.setCells gb i (List.replicate (j - i) (Value.slice none 0 0)) := ⟨_, rfl⟩
      rw [← hw2] at HM2 hcl
      clear hw2
      go_wp2
      go_ret
      obtain ⟨zs, h1, h2, h3⟩ := HM2.out
      have hc := own_cut h1 (show i ≤ j by omega)
      rw [h2, HT.out] at hc
      have hKm : kept p m j = kept p m m.length := by rw [← HN.out]
      refine ⟨_, rfl, ⟨(kept p m j).map fun t => vs.getD t undef, ?_, fun t ht => ?_⟩, ?_⟩
      · rw [HLEN.out, ← hKm, ← HII.out]; exact hc
      · have ht' : t < (kept p m j).length := by rw [hKm, ← HLEN.out]; exact ht
        have hlt' := kept_lt (List.getElem_mem ht')
        have hm : (kept p m j)[t] < m.length := by rw [← HN.out]; exact hlt'
        have e1 : ((kept p m j).map fun t => vs.getD t undef).getD t undef = vs.getD (kept p m j)[t] undef := by
          rw [List.getD_eq_getElem?_getD, List.getElem?_eq_getElem (by rw [List.length_map]; exact ht'), Option.getD_some, List.getElem_map]
        have e2 : (m.filter fun x => !p x)[t] = m[(kept p m j)[t]] := by
          have h0 : ((kept p m m.length).map (fun t => m.getD t []))[t]'(by rw [HMAP.out]; exact ht) = (m.filter fun x => !p x)[t] := by
            congr 1
          rw [← h0, List.getElem_map]
          simp only [← hKm]
          rw [List.getD_eq_getElem?_getD, List.getElem?_eq_getElem hm]; rfl
        rw [e1, e2]
        have h0 := HRW.out _ hm
        exact h0.kept h3 (own_types h0 HO.out (by decide))
      · exact ⟨h3.os.trans HB.out.os, h3.tape.trans HB.out.tape, h3.output.trans HB.out.output, Nat.le_trans HB.out.size h3.size, fun t ht => by
          have := HBG.out
          rw [h3.block t (by have := HB.out.size; omega) (by simp; omega)]; exact HB.out.block t ht⟩
theorem delRows_any (v : Value) (m : List (List Int)) (g : Nat) (cb : Array Value) (ok : List Int → Prop) (p : List Int → Bool) (lo : Nat) (W0 w : World) (eg : ∀ args w, (callFunc g args).run Tryz.prog w = .ok (.enter g args) w) (hin : MatT w lo v m) (hlo : lo ≤ w.heap.size) (hW : W0.heap.size ≤ lo) (hbW : Below W0.heap.size W0 w) (hok : ∀ r ∈ m, ok r) (hp : RowPred g cb ok p W0) :
    Calls Tryz.prog 104 #[v, .func (.func g) #[] cb] w (RowsRes lo (m.filter fun x => !p x) w) := by
  rcases idxP_spec p m with ⟨h1, h2⟩ | ⟨k, hk, h1, h2, h3⟩
  · exact delRows_no v m g cb ok p lo w eg hin hlo hok (rowPred_mono hp hbW) h1 h2
  · exact delRows_yes v m g cb ok p lo W0 w eg hin hW hbW hok hp k hk h1 h2 h3
end Go.Proofs.YtcliiefedmiokaaGreat
/-
  append to a slice that the call owns, and where the new one lies; a row of any length appended.
-/
namespace Go.Proofs.YtcliiefedmiokaaGreat
open Go.RowKit

/-- 'v = append(v, y)', and the new slice lies where the old one did, or in a block that was not there. -/
theorem wpList_pushl {P : Program} {ops : Array Oper} {rest : List Oper} {o : Oper} {a : Act} {Q : Exit → Act → World → Prop} {W : World} {base n bytes : Nat} {E T : TypeId} {v : Value} {xs : List Value}
    (hown : W.ownsRow base E 1 v n xs) (y z : Value) (hgd : o.guard = none) (s x : Operand)
    (ho : o.op = .call { callee := .builtin .append, args := #[s, x], argTypes := #[T, T] })
    (ht : P.underlying T = some (.slice E)) (hinfo : (P.info? E).map (fun i => (i.zero, i.size, i.bytes)) = some (some z, 1, bytes)) (hz : z.cells.size = 1) (hby : bytes ≤ 32)
    (hs : a.eval s = v) (hx : a.eval x = .slice (some ⟨W.heap.size, 0, none⟩) 1 1) (hy : y.oneCell' = true) (hn : n < 4000000) (hbase : base ≤ W.heap.size)
    (h : ∀ g cap w', w'.ownsRow base E 1 (.slice (some ⟨g, 0, none⟩) (n + 1) cap) (n + 1) (xs ++ [y]) → Below base W w' → W.grownBy w' v.ownBlock → (v.ownBlock = some g ∨ W.heap.size ≤ g) → wpList P ops Q rest (a.put o.dst (.slice (some ⟨g, 0, none⟩) (n + 1) cap)) w') :
    wpList P ops Q (o :: rest) a (W.alloc (.cells #[y] E)) := by
  obtain ⟨i0, hi, hz0, hz1, hz2⟩ := info_parts hinfo
  refine wpList_append_lies _ hgd s x T ho base E i0 z 1 bytes ht hi hz0 hz1 hz2 hz (by decide) v n xs hs (hown.alloc _) ⟨W.heap.size, 0, none⟩ 1 1 [y] hx rfl (new_cell W y E) (by simpa using hy)
    (by decide) (by unfold maxLen; omega) (by have : (n + 1) * bytes ≤ 4000000 * 32 := Nat.mul_le_mul (by omega) hby; omega) (by simp; omega) _ rfl ?_
  intro g cap w' hown' hg hat _
  have hlt := hown.lt
  have hal : Below base W (W.alloc (.cells #[y] E)) := (Below.refl _ _).alloc hbase _
  refine h g cap w' hown' (hal.grown hg (by simp; omega) (fun k hk => (hlt k hk).1)) ?_ ?_
  · exact grown_trans (World.grownBy_alloc W _ _) hg
  · rcases hat with h1 | h1
    · exact .inl h1
    · right; rw [h1, World.size_alloc]; omega

/-- 'append(v, u...)', u a slice of integers that some call has made, of any length. -/
theorem wpList_appendOwn {P : Program} {ops : Array Oper} {rest : List Oper} {o : Oper} {a : Act} {Q : Exit → Act → World → Prop} {W : World} {base n bytes : Nat} {T E2 B2 : TypeId} {v u : Value} {xs : List Value} (d : Tmp) (_hd : o.dst = some d)
    (hown : W.ownsRow base E2 1 v n xs) (r : List Int) (hu : W.ownsRow B2 E2 1 u r.length (ints r)) (z : Value) (hgd : o.guard = none) (s x : Operand)
    (ho : o.op = .call { callee := .builtin .append, args := #[s, x], argTypes := #[T, T] })
    (ht : P.underlying T = some (.slice E2)) (hinfo : (P.info? E2).map (fun i => (i.zero, i.size, i.bytes)) = some (some z, 1, bytes)) (hz : z.cells.size = 1) (hby : bytes ≤ 32)
    (hs : a.eval s = v) (hx : a.eval x = u) (hn : n + r.length < 4000000) (hbase : base ≤ W.heap.size)
    (h : ∀ v' w', w'.ownsRow base E2 1 v' (n + r.length) (xs ++ ints r) → Below base W w' → W.grownBy w' v.ownBlock → wpList P ops Q rest (a.put o.dst v') w') :
    wpList P ops Q (o :: rest) a W := by
  rcases hu.2 with ⟨rfl, h0⟩ | ⟨g, cap, cur, rfl, hbg, hg, hc, hm, _⟩
  · obtain rfl : r = [] := List.eq_nil_of_length_eq_zero h0
    obtain ⟨i0, hi, -⟩ := info_parts hinfo
    refine wpList_append_own_none hgd s x T ho base E2 i0 1 ht hi v n xs hs hown hx ?_
    refine h v W ?_ (Below.refl _ _) ⟨rfl, rfl, rfl, Nat.le_refl _, fun _ _ _ => rfl⟩
    simpa [ints] using hown
  · exact wpList_appendRow d _hd hown r g 0 cap z hgd s x ho ht hinfo hz hby hs hx (fun j hj => by rw [Nat.zero_add, hu.cellAt j (by omega), ints_at r j hj]) hn hbase h

theorem ownMat_grown {w w' : World} {lo hi : Nat} {v : Value} {m : List (List Int)} {row : Option Nat} (h : OwnMat w lo hi v m) (hg : w.grownBy w' row) (hne : ∀ q, row = some q → q < lo ∨ hi ≤ q) : OwnMat w' lo hi v m := by
  cases row with
  | none => exact ownMat_within h (within_grown (lo := hi) (hi := hi) hg fun k e => by cases e) (.inl (Nat.le_refl _))
  | some q => exact ownMat_within h (within_grown (lo := q) (hi := q + 1) hg fun k e => by cases e; omega) (by have := hne q rfl; omega)
end Go.Proofs.YtcliiefedmiokaaGreat
/-
  l05Rows of the model: all rows of so many cells with so many black ones.
-/
namespace Go.Proofs.YtcliiefedmiokaaGreat
open Go.RowKit

/-- The rows whose first cell is k, .. is less than k. -/
def rowsPart (n : Nat) (s : Int) (k : Nat) : List (List Int) := if (k : Int) ≤ s then (rowsLn n (s - k)).map ((k : Int) :: ·) else []
def rowsParts (n : Nat) (s : Int) : Nat → List (List Int)
  | 0 => []
  | k + 1 => rowsParts n s k ++ rowsPart n s k
theorem rowsParts_two (n : Nat) (s : Int) : rowsParts n s 2 = rowsLn (n + 1) s := by
  simp only [rowsParts, rowsPart, rowsLn, List.nil_append]
  simp
theorem rowsL_len : ∀ (n : Nat) (s : Int), (rowsLn n s).length ≤ 2 ^ n
  | 0, s => by unfold rowsLn; split <;> simp
  | n + 1, s => by
    unfold rowsLn
    have h1 := rowsL_len n s
    have h2 := rowsL_len n (s - 1)
    rw [List.length_append, Nat.pow_succ]
    split <;> split <;> simp <;> omega
theorem rowsL_small (n : Nat) (s : Int) (hn : n ≤ 5) : (rowsLn n s).length ≤ 32 :=
  Nat.le_trans (rowsL_len n s) (Nat.le_trans (Nat.pow_le_pow_right (by decide) hn) (by decide))
theorem rowsParts_len (n : Nat) (s : Int) (hn : n ≤ 5) : ∀ k, (rowsParts n s k).length ≤ 32 * k
  | 0 => Nat.le_refl _
  | k + 1 => by
    rw [rowsParts, List.length_append]
    have h1 := rowsParts_len n s hn k
    have h2 : (rowsPart n s k).length ≤ 32 := by
      unfold rowsPart
      split
      · rw [List.length_map]; exact rowsL_small n _ hn
      · simp
    omega
theorem map_take_succ {α β : Type} (f : α → β) (l : List α) (j : Nat) (h : j < l.length) (P : List β) : P ++ (l.take (j + 1)).map f = (P ++ (l.take j).map f) ++ [f l[j]] := by
  rw [List.take_succ_eq_append_getElem h, List.map_append, List.append_assoc]; rfl

end Go.Proofs.YtcliiefedmiokaaGreat
/-
  slices.Clone at integers; sumsWithout of the program; slices with their capacity.
-/
namespace Go.Proofs.YtcliiefedmiokaaGreat
open Go.RowKit

theorem clone_any (v : Value) (r : List Int) (w : World) (hin : InRow w v r) (hn : r.length ≤ 2000000) :
    Calls Tryz.prog 103 #[v] w (IntsRes r w) := by
  obtain ⟨a, c, rfl, hm, hp⟩ := hin
  by_cases h0 : r.length = 0
  · obtain rfl : r = [] := List.eq_nil_of_length_eq_zero h0
    cases a with
    | none =>
      refine (Tryz.slices_Clone_int_nil 0 c w).mono ?_
      rintro e w' ⟨rfl, rfl⟩
      exact intsRes_nil (Below.refl _ _)
    | some x =>
      refine (Tryz.slices_Clone_int_zero x c w).mono ?_
      rintro e w' ⟨v', rfl, ho, -, hb⟩
      exact ⟨v', rfl, ho, hb⟩
  · obtain ⟨g, o, rfl, -, hc⟩ := hp.resolve_left h0
    refine (Tryz.slices_Clone_int g o r.length c r w (Nat.le_refl _) (by omega) (fun j hj => ?_)).mono ?_
    · rw [hc j hj, List.getD_eq_getElem?_getD, List.getElem?_eq_getElem hj]; rfl
    rintro e w' ⟨v', rfl, ho, -, hb⟩
    rw [List.take_length] at ho
    exact ⟨v', rfl, ho, hb⟩
/-- What has been left behind k cells of the row. -/
def subF (c row : List Int) (k x : Nat) : Int := c.getD x 0 - if x < k then row.getD x 0 else 0
theorem subF_zero (c row : List Int) : tabL c.length (subF c row 0) = c := by
  rw [show tabL c.length (subF c row 0) = tabL c.length (fun x => c.getD x 0) from tabL_congr fun i _ => by rw [subF, if_neg (Nat.not_lt_zero _)]; simp]
  exact tabL_self c
theorem subF_all (c row : List Int) (k : Nat) (h : c.length ≤ k) : tabL c.length (subF c row k) = subL c row :=
  tabL_congr fun i hi => by rw [subF, if_pos (by omega)]
set_option maxHeartbeats 1000000 in
theorem sumsWithout_any (vc vr : Value) (c row : List Int) (w : World) (hc : InRow w vc c) (hr : InRow w vr row) (hl : row.length = c.length) (hn : c.length ≤ 5) (hM : ∀ x, x < c.length → -1000 ≤ c.getD x 0 ∧ c.getD x 0 ≤ 1000) (hR : ∀ x, x < c.length → -1000 ≤ row.getD x 0 ∧ row.getD x 0 ≤ 1000) :
    Calls Tryz.prog 94 #[vc, vr] w (IntsRes (subL c row) w) := by
  have HCL := hide (clone_any vc c w hc (by omega))
  have HM := hide hM; have HRR := hide hR
  obtain ⟨a, ca, rfl, hm, hp⟩ := hr
  unfold maxLen at hm
  have HP := hide fun h : row.length ≠ 0 => hp.resolve_left h
  have HZ := hide (subF_zero c row); have HA := hide (subF_all c row)
  have HX : Hid (∀ x, (h : x < row.length) → row.getD x 0 = row[x]) := hide fun x h => by rw [List.getD_eq_getElem?_getD, List.getElem?_eq_getElem h]; rfl
  rw [hl] at hm ⊢
  have HLL : Hid (row.length = c.length) := hide hl
  obtain ⟨C, hC⟩ : ∃ C, C = c.length := ⟨_, rfl⟩
  have HC := hide hC
  rw [← hC] at HZ HA hm hn HM HRR HLL ⊢
  clear hc hM hR hp hC hl
  go_enter Tryz.func94, Tryz.ntmps94
  go_wp2_with fail
  refine HCL.out.mono ?_
  rintro e w1 ⟨v1, rfl, ho, hb⟩
  rw [← HC.out] at ho
  obtain ⟨xa, xc, rfl⟩ := own_slice ho
  have HO := hide ho; have HB := hide hb
  clear ho hb
  go_wp2
  go_loopw [12] (fun i w' => ∃ k : Nat, k ≤ C ∧ i = .int .i64 k ∧ w'.ownsRow w.heap.size 3 1 (.slice xa C xc) C (ints (tabL C (subF c row k))) ∧ Below w.heap.size w w') (fun i _ => C - (intOf i).toNat)
  case atStart => exact ⟨0, Nat.zero_le _, rfl, by rw [HZ.out]; exact HO.out, HB.out⟩
  case round =>
    clear HO HB
    obtain ⟨k, hk, rfl, hown, hb⟩ := hrel
    have HO := hide hown; have HB := hide hb
    clear hb
    by_cases hlt : k < C
    · have hkr : k < row.length := by rw [HLL.out]; exact hlt
      obtain ⟨g, o, rfl, hg, hcell⟩ := HP.out (by omega)
      obtain ⟨g1, c1, he, hb1, -, -, -, -, -⟩ := own_some hown (by omega)
      cases he
      have hx := below_cell HB.out hg (hcell k hkr)
      rw [← HX.out k hkr] at hx
      have hc1 := cell_held HO.out hlt
      rw [tabL_held hlt, subF, if_neg (Nat.lt_irrefl k), Int.sub_zero] at hc1
      have hf := HO.out.frozenAt k
      have hm1 := HM.out k hlt
      have hm2 := HRR.out k hlt
      have HS := HO.out.stored k (.int .i64 (c.getD k 0 - row.getD k 0))
      rw [ints_set, tabL_set] at HS
      rw [show (tabL C fun t => if t = k then c.getD k 0 - row.getD k 0 else subF c row k t) = tabL C (subF c row (k + 1)) from tabL_congr fun i _ => by
        unfold subF
        by_cases e : i = k
        · subst e; rw [if_pos rfl, if_pos (Nat.lt_succ_self _)]
        · rw [if_neg e]
          by_cases e' : i < k
          · rw [if_pos e', if_pos (by omega)]
          · rw [if_neg e', if_neg (by omega)]] at HS
      have HS := hide HS
      obtain ⟨x1, hx1⟩ : ∃ x1, x1 = c.getD k 0 := ⟨_, rfl⟩
      obtain ⟨x2, hx2⟩ : ∃ x2, x2 = row.getD k 0 := ⟨_, rfl⟩
      rw [← hx1] at hc1 hm1 HS
      rw [← hx2] at hx hm2 HS
      obtain ⟨hm11, hm12⟩ := hm1
      obtain ⟨hm21, hm22⟩ := hm2
      clear hx1 hx2 hown hcell
      go_wp2
      go_roundw
      case rel => exact ⟨k + 1, by omega, by go_num, HS.out.1, HB.out.setCell hb1 _⟩
      case measure => simp [intOf]; omega
    · obtain rfl : k = C := by omega
      have HF := hide (HA.out k (Nat.le_refl _))
      rw [HF.out] at HO
      clear hown
      go_wp2
      go_ret
      exact ⟨_, rfl, by rw [subL_len, ← HC.out]; exact HO.out, HB.out⟩

/-- The slice reads as r, and its capacity is no less than its length. -/
def RowC (w : World) (v : Value) (r : List Int) : Prop := InRow w v r ∧ ∃ a c, v = .slice a r.length c ∧ r.length ≤ c ∧ c ≤ maxLen
theorem rowC_below {w w' : World} {v : Value} {r : List Int} (h : RowC w v r) (hb : Below w.heap.size w w') : RowC w' v r := ⟨inRow_below h.1 hb, h.2⟩
theorem rowC_own {w : World} {base : Nat} {v : Value} {r : List Int} (h : w.ownsRow base 3 1 v r.length (ints r)) : RowC w v r := by
  refine ⟨inRow_own h, ?_⟩
  rcases h.2 with ⟨rfl, h0⟩ | ⟨g, cap, cur, rfl, hbg, hg, hc, hm, _⟩
  · exact ⟨none, 0, by rw [h0], by omega, Nat.zero_le _⟩
  · exact ⟨_, _, rfl, hc, hm⟩
theorem rowC_tail {w : World} {g o n c : Nat} {x : Int} {r : List Int} (h : RowC w (.slice (some ⟨g, o, none⟩) n c) (x :: r)) : RowC w (.slice (if c = 1 then some ⟨g, o, none⟩ else some ⟨g, o + 1, none⟩) (n - 1) (c - 1)) r := by
  obtain ⟨⟨a, c', he, hm, hp⟩, a2, c2, he2, hl, hmx⟩ := h
  cases he; cases he2
  simp only [List.length_cons, Nat.add_sub_cancel] at hl hm ⊢
  refine ⟨⟨_, _, rfl, by omega, ?_⟩, _, _, rfl, by omega, by omega⟩
  obtain ⟨g', o', he', hg, hc⟩ := hp.resolve_left (by simp)
  cases he'
  by_cases h0 : r.length = 0
  · exact .inl h0
  · rw [if_neg (by omega)]
    refine .inr ⟨g, o + 1, rfl, hg, fun i hi => ?_⟩
    have := hc (i + 1) (by simp; omega)
    rw [List.getElem_cons_succ] at this
    rw [← this, show o + (i + 1) = o + 1 + i by omega]
end Go.Proofs.YtcliiefedmiokaaGreat
