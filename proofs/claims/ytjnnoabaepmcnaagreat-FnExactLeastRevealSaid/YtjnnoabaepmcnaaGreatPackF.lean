/-
  Texts of this claim, one behind the other: LineMap, LList, Cancel, LSums, SumF, RowSS, RowS, SpecE.
-/
import Derived.Test.YtjnnoabaepmcnaaGreatPackE
import Derived.Test.YtjnnoabaepmcnaaGreatPackB
import Derived.Deep.CutRange
import Derived.Deep.LoopGhost
import Derived.Maps.RangeWalk
/-
  lineMapOf: the program's map of lines.
-/
namespace Go.Proofs.YtjnnoabaepmcnaaGreat
open Go.RowKit Go.Maps
open Go.ChangeMaps (setBlock)

/-- Cell number i is black and lies on the line. -/
def onL (C : Nat) (f : Nat → Nat → Int) (d : Int × Int) (n : Int) (i : Nat) : Bool := f (i / C) (i % C) == 1 && lnum d.1 d.2 C (i / C : Nat) (i % C : Nat) == n
/-- What the first i cells give to a line, along d. -/
def lineC (C : Nat) (f : Nat → Nat → Int) (d : Int × Int) (i : Nat) (k : Key) : Int := if k.x = d.1 ∧ k.y = d.2 then (cnt (onL C f d k.n) i : Nat) else 0
def linesC (C : Nat) (f : Nat → Nat → Int) (N : Nat) (k : Key) : List (Int × Int) → Int
  | [] => 0
  | d :: r => lineC C f d N k + linesC C f N k r
theorem linesC_snoc (C : Nat) (f : Nat → Nat → Int) (N : Nat) (k : Key) (d : Int × Int) : ∀ l : List (Int × Int), linesC C f N k (l ++ [d]) = linesC C f N k l + lineC C f d N k
  | [] => by simp [linesC]
  | x :: l => by rw [List.cons_append, linesC, linesC, linesC_snoc C f N k d l]; omega
theorem lineC_range (C : Nat) (f : Nat → Nat → Int) (d : Int × Int) (i : Nat) (k : Key) : 0 ≤ lineC C f d i k ∧ lineC C f d i k ≤ i := by
  unfold lineC
  have := cnt_le (onL C f d k.n) i
  split <;> omega
theorem linesC_range (C : Nat) (f : Nat → Nat → Int) (N : Nat) (k : Key) : ∀ l : List (Int × Int), 0 ≤ linesC C f N k l ∧ linesC C f N k l ≤ N * l.length
  | [] => by simp [linesC]
  | d :: l => by
    have h1 := lineC_range C f d N k
    have h2 := linesC_range C f N k l
    have e : (N : Int) * ((l.length + 1 : Nat) : Int) = N * l.length + N := by rw [Int.natCast_add, Int.mul_add]; simp
    rw [linesC, List.length_cons, e]
    omega
/-- The directions lie one behind the other. -/
def InDirs (w : World) (v : Value) (ds : List (Int × Int)) : Prop :=
  ∃ g c, v = .slice (some ⟨g, 0, none⟩) ds.length c ∧ g < w.heap.size ∧ ∀ i, (h : i < ds.length) → w.cell? ⟨g, i * 2, none⟩ = some (.int .i64 ds[i].1) ∧ w.cell? ⟨g, i * 2 + 1, none⟩ = some (.int .i64 ds[i].2)
theorem inDirs_below {w w' : World} {v : Value} {ds : List (Int × Int)} (h : InDirs w v ds) (hb : Below w.heap.size w w') : InDirs w' v ds := by
  obtain ⟨g, c, hv, hg, hc⟩ := h
  exact ⟨g, c, hv, Nat.lt_of_lt_of_le hg hb.size, fun i hi => ⟨below_cell hb hg (hc i hi).1, below_cell hb hg (hc i hi).2⟩⟩
theorem onL_at {C : Nat} {f : Nat → Nat → Int} {d : Int × Int} {n : Int} {y x : Nat} (hx : x < C) : onL C f d n (C * y + x) = (f y x == 1 && lnum d.1 d.2 C y x == n) := by
  have h1 : (C * y + x) / C = y := by rw [Nat.mul_add_div (by omega), Nat.div_eq_of_lt hx]; omega
  have h2 : (C * y + x) % C = x := by rw [Nat.mul_add_mod, Nat.mod_eq_of_lt hx]
  rw [onL, h1, h2]
theorem lineC_white {C : Nat} {f : Nat → Nat → Int} {d : Int × Int} {y x : Nat} (hx : x < C) (h : f y x = 0) (k : Key) : lineC C f d (C * y + (x + 1)) k = lineC C f d (C * y + x) k := by
  have e : onL C f d k.n (C * y + x) = false := by rw [onL_at hx, h]; rfl
  unfold lineC
  rw [← Nat.add_assoc, cnt_no e]
theorem lineC_black {C : Nat} {f : Nat → Nat → Int} {d : Int × Int} {y x : Nat} (hx : x < C) (h : f y x = 1) (k : Key) :
    lineC C f d (C * y + (x + 1)) k = if k = ⟨d.1, d.2, lnum d.1 d.2 C y x⟩ then lineC C f d (C * y + x) k + 1 else lineC C f d (C * y + x) k := by
  obtain ⟨kx, ky, kn⟩ := k
  unfold lineC
  by_cases hk : kx = d.1 ∧ ky = d.2
  · rw [if_pos hk, if_pos hk, ← Nat.add_assoc]
    by_cases hn : lnum d.1 d.2 C y x = kn
    · have e : onL C f d kn (C * y + x) = true := by rw [onL_at hx, h, hn]; simp
      rw [cnt_yes e, if_pos (by rw [hn, hk.1, hk.2])]; simp
    · have e : onL C f d kn (C * y + x) = false := by rw [onL_at hx]; simp [hn]
      rw [cnt_no e, if_neg (fun h => hn (by cases h; rfl))]
  · rw [if_neg hk, if_neg hk, if_neg (fun h => hk (by cases h; exact ⟨rfl, rfl⟩))]

/-- The lines behind j directions and i cells of the next one. -/
def upL (C : Nat) (f : Nat → Nat → Int) (N : Nat) (ds : List (Int × Int)) (d : Int × Int) (i : Nat) (k : Key) : Int := linesC C f N k ds + lineC C f d i k
def thereK (F : Key → Int) (k : Key) : Bool := decide (F k ≠ 0)

/-- The sum of the first n numbers. -/
def sumF (v : Nat → Int) : Nat → Int
  | 0 => 0
  | n + 1 => sumF v n + v n
theorem sumF_congr {v u : Nat → Int} : ∀ {n : Nat}, (∀ i, i < n → v i = u i) → sumF v n = sumF u n
  | 0, _ => rfl
  | n + 1, h => by rw [sumF, sumF, sumF_congr fun i hi => h i (by omega), h n (by omega)]
theorem sumF_range {v : Nat → Int} : ∀ {n : Nat}, (∀ i, i < n → -100 ≤ v i ∧ v i ≤ 100) → -100 * (n : Int) ≤ sumF v n ∧ sumF v n ≤ 100 * (n : Int)
  | 0, _ => by simp [sumF]
  | n + 1, h => by
    have h1 := sumF_range (v := v) (n := n) fun i hi => h i (by omega)
    have h2 := h n (by omega)
    rw [sumF]; omega
/-- What cell number i gives to a line. -/
def elL (C : Nat) (f : Nat → Nat → Int) (d : Int × Int) (n : Int) (i : Nat) : Int := if lnum d.1 d.2 C (i / C : Nat) (i % C : Nat) = n then f (i / C) (i % C) else 0
def lineE (C : Nat) (f : Nat → Nat → Int) (d : Int × Int) (i : Nat) (k : Key) : Int := if k.x = d.1 ∧ k.y = d.2 then sumF (elL C f d k.n) i else 0
def linesE (C : Nat) (f : Nat → Nat → Int) (N : Nat) (k : Key) : List (Int × Int) → Int
  | [] => 0
  | d :: r => lineE C f d N k + linesE C f N k r
theorem linesE_snoc (C : Nat) (f : Nat → Nat → Int) (N : Nat) (k : Key) (d : Int × Int) : ∀ l : List (Int × Int), linesE C f N k (l ++ [d]) = linesE C f N k l + lineE C f d N k
  | [] => by simp [linesE]
  | x :: l => by rw [List.cons_append, linesE, linesE, linesE_snoc C f N k d l]; omega
theorem elL_at {C : Nat} {f : Nat → Nat → Int} {d : Int × Int} {n : Int} {y x : Nat} (hx : x < C) : elL C f d n (C * y + x) = if lnum d.1 d.2 C y x = n then f y x else 0 := by
  have h1 : (C * y + x) / C = y := by rw [Nat.mul_add_div (by omega), Nat.div_eq_of_lt hx]; omega
  have h2 : (C * y + x) % C = x := by rw [Nat.mul_add_mod, Nat.mod_eq_of_lt hx]
  rw [elL, h1, h2]
theorem lineE_zero {C : Nat} {f : Nat → Nat → Int} {d : Int × Int} {y x : Nat} (hx : x < C) (h : f y x = 0) (k : Key) : lineE C f d (C * y + (x + 1)) k = lineE C f d (C * y + x) k := by
  have e : elL C f d k.n (C * y + x) = 0 := by rw [elL_at hx, h]; split <;> rfl
  unfold lineE
  rw [← Nat.add_assoc, sumF, e, Int.add_zero]
theorem lineE_add {C : Nat} {f : Nat → Nat → Int} {d : Int × Int} {y x : Nat} (hx : x < C) (k : Key) :
    lineE C f d (C * y + (x + 1)) k = if k = ⟨d.1, d.2, lnum d.1 d.2 C y x⟩ then lineE C f d (C * y + x) k + f y x else lineE C f d (C * y + x) k := by
  obtain ⟨kx, ky, kn⟩ := k
  unfold lineE
  by_cases hk : kx = d.1 ∧ ky = d.2
  · rw [if_pos hk, if_pos hk, ← Nat.add_assoc, sumF, elL_at hx]
    by_cases hn : lnum d.1 d.2 C y x = kn
    · rw [if_pos hn, if_pos (by rw [hn, hk.1, hk.2])]
    · rw [if_neg hn, if_neg (fun h => hn (by cases h; rfl)), Int.add_zero]
  · rw [if_neg hk, if_neg hk, if_neg (fun h => hk (by cases h; exact ⟨rfl, rfl⟩))]
/-- A grid's elements are small. -/
def Small (R C : Nat) (f : Nat → Nat → Int) : Prop := ∀ y x, y < R → x < C → -100 ≤ f y x ∧ f y x ≤ 100
theorem cell_of {R C i : Nat} (hi : i < R * C) : i / C < R ∧ i % C < C := by
  have hC : 0 < C := Nat.pos_of_ne_zero fun h => by subst h; simp at hi
  exact ⟨Nat.div_lt_of_lt_mul (by rw [Nat.mul_comm]; exact hi), Nat.mod_lt i hC⟩
theorem lineE_range {R C i : Nat} {f : Nat → Nat → Int} (hf : Small R C f) (d : Int × Int) (hi : i ≤ R * C) (k : Key) : -100 * (i : Int) ≤ lineE C f d i k ∧ lineE C f d i k ≤ 100 * (i : Int) := by
  unfold lineE
  split
  · refine sumF_range fun j hj => ?_
    unfold elL
    obtain ⟨h1, h2⟩ := cell_of (Nat.lt_of_lt_of_le hj hi)
    have := hf _ _ h1 h2
    split <;> omega
  · omega
theorem linesE_range {R C : Nat} {f : Nat → Nat → Int} (hf : Small R C f) (h25 : R * C ≤ 25) (k : Key) : ∀ l : List (Int × Int), -2500 * (l.length : Int) ≤ linesE C f (R * C) k l ∧ linesE C f (R * C) k l ≤ 2500 * (l.length : Int)
  | [] => by simp [linesE]
  | d :: l => by
    have h1 := lineE_range hf d (Nat.le_refl (R * C)) k
    have h2 := linesE_range hf h25 k l
    rw [linesE, List.length_cons]
    omega
def upE (C : Nat) (f : Nat → Nat → Int) (N : Nat) (ds : List (Int × Int)) (d : Int × Int) (i : Nat) (k : Key) : Int := linesE C f N k ds + lineE C f d i k
/-- 1 for each element that is not 0. -/
def nzF (f : Nat → Nat → Int) (y x : Nat) : Int := if f y x = 0 then 0 else 1
theorem cnt_same {p q : Nat → Bool} : ∀ {n : Nat}, (∀ i, i < n → p i = q i) → cnt p n = cnt q n
  | 0, _ => rfl
  | n + 1, h => by
    have ih := cnt_same (p := p) (q := q) (n := n) fun i hi => h i (by omega)
    cases e : q n with
    | true => rw [cnt_yes e, cnt_yes (by rw [h n (by omega), e]), ih]
    | false => rw [cnt_no e, cnt_no (by rw [h n (by omega), e]), ih]
theorem sumF_cnt {v : Nat → Int} {p : Nat → Bool} : ∀ {n : Nat}, (∀ i, i < n → v i = if p i = true then 1 else 0) → sumF v n = (cnt p n : Nat)
  | 0, _ => rfl
  | n + 1, h => by
    have ih := sumF_cnt (v := v) (p := p) (n := n) fun i hi => h i (by omega)
    rw [sumF, ih, h n (by omega)]
    cases e : p n with
    | true => rw [cnt_yes e]; simp
    | false => rw [cnt_no e]; simp
theorem img_lineE {R C : Nat} {f : Nat → Nat → Int} (hI : Img R C f) (d : Int × Int) (k : Key) : lineE C f d (R * C) k = lineC C f d (R * C) k := by
  unfold lineE lineC
  rw [sumF_cnt (p := onL C f d k.n) fun i hi => ?_]
  obtain ⟨h1, h2⟩ := cell_of hi
  unfold elL onL
  rcases hI.cell _ _ h1 h2 with e | e <;> rw [e]
  · simp
  · by_cases hn : lnum d.1 d.2 C (i / C : Nat) (i % C : Nat) = k.n
    · rw [if_pos hn, hn]; simp
    · rw [if_neg hn, beq_eq_false_iff_ne.2 hn]; simp
theorem img_linesE {R C : Nat} {f : Nat → Nat → Int} (hI : Img R C f) (k : Key) : ∀ l : List (Int × Int), linesE C f (R * C) k l = linesC C f (R * C) k l
  | [] => rfl
  | d :: l => by rw [linesE, linesC, img_lineE hI, img_linesE hI k l]
theorem img_lineN {R C : Nat} {f : Nat → Nat → Int} (hI : Img R C f) (d : Int × Int) (k : Key) : lineC C (nzF f) d (R * C) k = lineC C f d (R * C) k := by
  unfold lineC
  rw [cnt_same (q := onL C f d k.n) fun i hi => ?_]
  obtain ⟨h1, h2⟩ := cell_of hi
  unfold onL nzF
  rcases hI.cell _ _ h1 h2 with e | e <;> rw [e] <;> rfl
theorem img_linesN {R C : Nat} {f : Nat → Nat → Int} (hI : Img R C f) (k : Key) : ∀ l : List (Int × Int), linesC C (nzF f) (R * C) k l = linesC C f (R * C) k l
  | [] => rfl
  | d :: l => by rw [linesC, linesC, img_lineN hI, img_linesN hI k l]
theorem img_small {R C : Nat} {f : Nat → Nat → Int} (hI : Img R C f) : Small R C f := fun y x hy hx => by rcases hI.cell y x hy hx with e | e <;> omega

theorem exec_loadDirA {ρ : Operand → Value} {o : Oper} {w : World} {x : Operand} {g i : Nat} {dx dy : Int} (ho : o.op = .load 70 x) (hx : ρ x = .pointer (some ⟨g, i, none⟩)) (h1 : w.cell? ⟨g, i, none⟩ = some (.int .i64 dx)) (h2 : w.cell? ⟨g, i + 1, none⟩ = some (.int .i64 dy)) :
    (execOp ρ o).run Tryz.prog w = .ok (.value (.agg #[.int .i64 dx, .int .i64 dy])) w := by
  unfold execOp
  simp only [ho, hx]
  go_simp

theorem exec_storeK {ρ : Operand → Value} {o : Oper} {w w' : World} {m s x : Operand} {b st : Nat} {v : Int} (ho : o.op = .entryStore 90 m s x) (hm : ρ m = .map (some b)) (hs : ρ s = .int .i64 st) (hx : ρ x = .int .i64 v)
    (hrun : (Instr.entryStore 90 (.map (some b)) (.int .i64 st) (.int .i64 v)).run Tryz.prog w = .ok () w') : (execOp ρ o).run Tryz.prog w = .ok .skip w' := by
  unfold execOp
  simp only [ho, hm, hs, hx]
  simp [hrun, Result.andThen]
theorem grown_step {a b c : World} {row : Nat} (h : Below a.heap.size a b) (hg : b.grownBy c (some row)) (hr : a.heap.size ≤ row) : Below a.heap.size a c := h.trans (grown_below hg (fun k hk => by cases hk; exact hr) h.size)
theorem key_wf {a b n : Int} (h1 : (Lit.int .i64 a).wf = true) (h2 : (Lit.int .i64 b).wf = true) (h3 : (Lit.int .i64 n).wf = true) : (⟨a, b, n⟩ : Key).wf := ⟨h1, h2, h3⟩

set_option maxRecDepth 100000 in
set_option maxHeartbeats 4000000 in
theorem lineMapOf_el (v u : Value) (R C : Nat) (f : Nat → Nat → Int) (ds : List (Int × Int)) (w : World) (hin : InMat w v (mkM R C f)) (hR : 1 ≤ R ∧ R ≤ 5) (hC : 1 ≤ C ∧ C ≤ 5) (hS : Small R C f) (hd : InDirs w u ds) (hl : ds.length ≤ 2) (hok : ∀ d ∈ ds, Near d.1 d.2) :
    Calls Tryz.prog 83 #[v, u] w fun e w' => ∃ b, e = .returned (.map (some b)) ∧ w.heap.size ≤ b ∧ LM w' b 50 (thereK fun k => linesC C (nzF f) (R * C) k ds) (fun k => linesE C f (R * C) k ds) ∧ Below w.heap.size w w' := by
  have hmm := @run_makeMap Tryz.prog
  obtain ⟨g, o, cap, rfl, hg, hrow⟩ := inMat_img hin (by omega) (by omega)
  obtain ⟨gd, cd, rfl, hgd, hdc⟩ := hd
  have HROW := hide hrow; have HDC := hide hdc; have HS := hide hS; have HOK := hide hok
  clear hin hrow hdc hok hS
  obtain ⟨r1, r2⟩ := hR
  obtain ⟨c1, c2⟩ := hC
  obtain ⟨L, hL⟩ : ∃ L, L = ds.length := ⟨_, rfl⟩
  have HL := hide hL
  rw [← hL] at hl ⊢
  clear hL
  have HLM0 := hide (lm_made w)
  have HB0 := hide ((Below.refl w.heap.size w).alloc (Nat.le_refl _) (.map #[] 0))
  go_enter Tryz.func83, Tryz.ntmps83
  go_wp2
  clear hmm
  go_loopw [15] (fun i wr => ∃ j : Nat, j ≤ L ∧ i = .int .i64 j ∧ LM wr w.heap.size (25 * j) (thereK fun k => linesC C (nzF f) (R * C) k (ds.take j)) (fun k => linesE C f (R * C) k (ds.take j)) ∧ Below w.heap.size w wr) (fun i _ => L - (intOf i).toNat)
  case atStart => exact ⟨0, Nat.zero_le _, rfl, HLM0.out, HB0.out⟩
  case round =>
    obtain ⟨wo, rfl⟩ : ∃ wo, wo = wr := ⟨_, rfl⟩
    obtain ⟨j, hj, rfl, hlm, hb⟩ := hrel
    have hlw := lm_lt hlm
    have HLM := hide hlm; have HB := hide hb
    clear hlm hb
    by_cases hlt : j < L
    · have hj' : j < ds.length := by rw [← HL.out]; exact hlt
      obtain ⟨hc1, hc2⟩ := HDC.out j hj'
      have hc1 := below_cell HB.out hgd hc1
      have hc2 := below_cell HB.out hgd hc2
      have HN := hide (HOK.out _ (List.getElem_mem hj'))
      have HTK := hide (List.take_succ_eq_append_getElem hj')
      obtain ⟨dx, hdx⟩ : ∃ x, x = ds[j].1 := ⟨_, rfl⟩
      obtain ⟨dy, hdy⟩ : ∃ x, x = ds[j].2 := ⟨_, rfl⟩
      have HD := hide (show ds[j] = (dx, dy) by rw [hdx, hdy])
      rw [← hdx] at hc1 HN
      rw [← hdy] at hc2 HN
      clear hdx hdy
      go_wp2
      go_loopw [21] (fun i w2 => ∃ y : Nat, y ≤ R ∧ i = .int .i64 y ∧ LM w2 w.heap.size (25 * j + C * y) (thereK (upL C (nzF f) (R * C) (ds.take j) (dx, dy) (C * y))) (upE C f (R * C) (ds.take j) (dx, dy) (C * y)) ∧ Below w.heap.size w w2 ∧ DirAt w2 wo.heap.size dx dy) (fun i _ => R - (intOf i).toNat)
      case atStart =>
        have hb1 : Below wo.heap.size wo (wo.alloc (.cells #[.int .i64 dx, .int .i64 dy] 70)) := (Below.refl _ _).alloc (Nat.le_refl _) _
        exact ⟨0, Nat.zero_le _, rfl, lm_congr (lm_below HLM.out hb1) (fun k _ => by simp [thereK, upL, lineC, cnt]) (fun k _ => by simp [upE, lineE, sumF]), HB.out.trans (hb1.mono HB.out.size), heap_alloc_new wo _⟩
      case round =>
        obtain ⟨y, hy, rfl, hlm, hb, hg2⟩ := hrel
        have HLM := hide hlm; have HB2 := hide hb; have HG := hide hg2
        clear hlm hb hg2
        by_cases hly : y < R
        · obtain ⟨g', o', c', hcr, hg', hcell⟩ := HROW.out y hly
          have hcr := below_cell HB2.out hg hcr
          have HCELL := hide hcell
          clear hcell
          go_wp2
          go_loopw [28] (fun i w3 => ∃ x : Nat, x ≤ C ∧ i = .int .i64 x ∧ LM w3 w.heap.size (25 * j + (C * y + x)) (thereK (upL C (nzF f) (R * C) (ds.take j) (dx, dy) (C * y + x))) (upE C f (R * C) (ds.take j) (dx, dy) (C * y + x)) ∧ Below w.heap.size w w3 ∧ DirAt w3 wo.heap.size dx dy) (fun i _ => C - (intOf i).toNat)
          case atStart => exact ⟨0, Nat.zero_le _, rfl, HLM.out, HB2.out, HG.out⟩
          case round =>
            obtain ⟨x, hx, rfl, hlm, hb, hg2⟩ := hrel
            have HLM3 := hide hlm; have HB3 := hide hb; have HG3 := hide hg2
            clear hlm hb hg2
            by_cases hlx : x < C
            · have hcx := below_cell HB3.out hg' (HCELL.out x hlx)
              obtain ⟨n, hn⟩ : ∃ n, n = f y x := ⟨_, rfl⟩
              have HNN := hide hn
              have hnS := HS.out y x hly hlx
              rw [← hn] at hcx hnS
              clear hn
              by_cases hf : n = 0
              · have HW := hide (fun k => lineC_white (C := C) (f := nzF f) (d := (dx, dy)) hlx (by rw [nzF, ← HNN.out, hf]; rfl) k)
                have HWE := hide (fun k => lineE_zero (C := C) (f := f) (d := (dx, dy)) hlx (by rw [← HNN.out, hf]) k)
                rw [hf] at hcx
                clear hf
                go_wp2
                go_roundw
                case rel => exact ⟨x + 1, by omega, by go_num, lm_congr (lm_mono HLM3.out (by omega)) (fun k _ => by unfold thereK upL; rw [HW.out k]) (fun k _ => by unfold upE; rw [HWE.out k]), HB3.out, HG3.out⟩
                case measure => simp [intOf]; omega
              · have HBK := hide (fun k => lineC_black (C := C) (f := nzF f) (d := (dx, dy)) hlx (by rw [nzF, ← HNN.out, if_neg hf]) k)
                have HBE := hide (fun k => lineE_add (C := C) (f := f) (d := (dx, dy)) (y := y) hlx k)
                have HNZ := hide hf
                obtain ⟨hn1, hn2⟩ := hnS
                go_upto_region 12 with fail
                have hcy : C * y ≤ 5 * 4 := Nat.mul_le_mul c2 (by omega)
                obtain ⟨n1, n2, n3, n4⟩ := HN.out
                obtain ⟨p1, p2, -⟩ := lnum_range (rows := R) (cols := C) (y := y) (x := x) HN.out (by omega) (by omega) (by omega) (by omega) (by omega) (by omega) (by omega) (by omega)
                obtain ⟨k, hkk⟩ : ∃ k : Key, k = ⟨dx, dy, lnum dx dy C y x⟩ := ⟨_, rfl⟩
                have HK := hide hkk
                have hkw : k.wf := by rw [hkk]; exact key_wf (WalkArith.wf_i64 (by omega)) (WalkArith.wf_i64 (by omega)) (WalkArith.wf_i64 (by omega))
                have HKW := hide hkw
                have hkv : Value.agg #[.int .i64 dx, .int .i64 dy, .int .i64 (lnum dx dy C y x)] = keyV k := by rw [hkk]; rfl
                clear hkk hkw
                obtain ⟨E0, E1, st, hE0, hE⟩ := lm_ent HLM3.out (by unfold maxLen; omega) HKW.out
                have HE := hide hE; have HE0 := hide hE0
                clear hE hE0
                obtain ⟨c, hcc⟩ : ∃ c, c = upE C f (R * C) (ds.take j) (dx, dy) (C * y + x) k := ⟨_, rfl⟩
                have HCC := hide hcc
                have hc0 : -100000 ≤ c ∧ c ≤ 100000 := by
                  have h25 : R * C ≤ 5 * 5 := Nat.mul_le_mul r2 c2
                  have h1 := linesE_range HS.out h25 k (ds.take j)
                  have h0 : C * y + x ≤ R * C := by
                    have : C * (y + 1) ≤ C * R := Nat.mul_le_mul (Nat.le_refl _) hly
                    rw [Nat.mul_comm C R, Nat.mul_succ] at this; omega
                  have h2 := lineE_range HS.out (dx, dy) h0 k
                  have h3 : (ds.take j).length ≤ 2 := by rw [List.length_take]; omega
                  rw [hcc]; unfold upE; omega
                obtain ⟨hc0, hc1'⟩ := hc0
                clear hcc
                have l1 : IntKind.i64.wrap (c + n) = c + n := IntWalk.i64_in _ (by omega)
                obtain ⟨fs, hfs⟩ : ∃ fs : List FactP, fs = [isV (.map (some w.heap.size)), isV (.agg #[.int .i64 dx, .int .i64 dy]), isV (.slice (some ⟨g', o', none⟩) C c'), isV (.int .i64 C), isV (.agg #[.int .i64 dx, .int .i64 dy]), isV (.int .i64 y), isV (.int .i64 x), isV (.int .i64 (lnum dx dy C y x)), isV (keyV k), isV (.int .i64 c), isV (.int .i64 n), isV (.int .i64 (c + n)), isB (.tuple #[.int .i64 c, .int .i64 st]) w.heap.size E1, isV (.int .i64 st)] := ⟨_, rfl⟩
                have hst : ∀ f ∈ fs, StableP f := by
                  rw [hfs]; intro f hf
                  simp only [List.mem_cons, List.not_mem_nil, or_false] at hf
                  rcases hf with rfl | rfl | rfl | rfl | rfl | rfl | rfl | rfl | rfl | rfl | rfl | rfl | rfl | rfl <;> first | exact stable_v _ | exact stable_b _ _ _
                have hout : ∀ f ∈ fs, OutP w.heap.size E1 f := by
                  rw [hfs]; intro f hf
                  simp only [List.mem_cons, List.not_mem_nil, or_false] at hf
                  rcases hf with rfl | rfl | rfl | rfl | rfl | rfl | rfl | rfl | rfl | rfl | rfl | rfl | rfl | rfl <;> first | exact out_v _ _ _ | exact out_b _ _ _
                subst hfs
                refine wp_region_tail (S := fun w2 => DirAt w2 wo.heap.size dx dy ∧ Below w.heap.size w w2 ∧ (w2.heap[w.heap.size]? = some E0 ∨ w2.heap[w.heap.size]? = some E1)) [isV (.map (some w.heap.size)), isV (.agg #[.int .i64 dx, .int .i64 dy]), isV (.slice (some ⟨g', o', none⟩) C c'), isV (.int .i64 C), isV (.agg #[.int .i64 dx, .int .i64 dy]), isV (.int .i64 y), isV (.int .i64 x), isV (.int .i64 (lnum dx dy C y x)), isV (keyV k), isV (.int .i64 c), isV (.int .i64 n), isV (.int .i64 (c + n)), isB (.tuple #[.int .i64 c, .int .i64 st]) w.heap.size E1, isV (.int .i64 st)] [(5, .map (some w.heap.size)), (7, .pointer (some ⟨wo.heap.size, 0, none⟩)), (8, .int .i64 y), (9, .slice (some ⟨g', o', none⟩) C c'), (10, .int .i64 x), (11, .int .i64 n)] _ _ 14 (by kernel_rfl) rfl rfl (by kernel_rfl) (by kernel_rfl) rfl (by kernel_rfl) ?base ⟨HG3.out, below_drew HB3.out, .inl HE0.out⟩ ?ob rfl ?fin
                case base =>
                  intro t v ht
                  simp only [List.lookup_cons, List.lookup_nil] at ht
                  repeat' split at ht
                  all_goals first | (cases ht; done) | (obtain rfl := Option.some.inj ht; rename_i hh; obtain rfl := eq_of_beq hh; rfl)
                case ob =>
                  exact ⟨obt_move (.map (some w.heap.size)) rfl rfl rfl (srt_b 5 rfl),
                    obt_one (.agg #[.int .i64 dx, .int .i64 dy]) rfl rfl (srt_b 7 rfl) (fun ρ w2 hS hx => exec_loadDir rfl hx hS.1),
                    obt_move (.slice (some ⟨g', o', none⟩) C c') rfl rfl rfl (srt_b 9 rfl),
                    obt_one (.int .i64 C) rfl rfl (srt_j 2 rfl (by kernel_rfl) rfl) (fun ρ w2 hS hx => by go_simp),
                    obt_one (.agg #[.int .i64 dx, .int .i64 dy]) rfl rfl (srt_b 7 rfl) (fun ρ w2 hS hx => exec_loadDir rfl hx hS.1),
                    obt_move (.int .i64 y) rfl rfl rfl (srt_b 8 rfl),
                    obt_move (.int .i64 x) rfl rfl rfl (srt_b 10 rfl),
                    obt_call hst [.int .i64 C, .agg #[.int .i64 dx, .int .i64 dy], .int .i64 y, .int .i64 x] rfl Tryz.func93 (by kernel_rfl) (by kernel_rfl) rfl ⟨(srt_j 3 rfl (by kernel_rfl) rfl), (srt_j 4 rfl (by kernel_rfl) rfl), (srt_j 5 rfl (by kernel_rfl) rfl), (srt_j 6 rfl (by kernel_rfl) rfl), trivial⟩ (fun w2 hS => (lineNumber_any dx dy C y x w2 HN.out ⟨by omega, by omega⟩ ⟨by omega, by omega⟩ ⟨by omega, by omega⟩).mono fun e w3 hh => ⟨_, hh.1, ⟨dirAt_below hS.1 hh.2, hS.2.1.trans (hh.2.mono hS.2.1.size), ent_below hS.2.2 hh.2⟩, hh.2, rfl⟩),
                    obt_two (keyV k) rfl rfl (srt_j 1 rfl (by kernel_rfl) rfl) (srt_j 7 rfl (by kernel_rfl) rfl) (fun ρ w2 hS hx hy => by rw [← hkv]; exact exec_keyV rfl hx hy),
                    obt_two (.int .i64 c) rfl rfl (srt_j 0 rfl (by kernel_rfl) rfl) (srt_j 8 rfl (by kernel_rfl) rfl) (fun ρ w2 hS hx hy => exec_lookupK rfl hx hy (by rw [HCC.out]; exact HE.out.look w2 hS.2.2)),
                    obt_move (.int .i64 n) rfl rfl rfl (srt_b 11 rfl),
                    obt_two (.int .i64 (c + n)) rfl rfl (srt_j 9 rfl (by kernel_rfl) rfl) (srt_j 10 rfl (by kernel_rfl) rfl) (fun ρ w2 hS hx hy => by go_simp),
                    obt_entry (by have := HE.out; exact this) rfl (by rw [HCC.out]; rfl) rfl (srt_j 0 rfl (by kernel_rfl) rfl) (srt_j 8 rfl (by kernel_rfl) rfl) hout (fun w2 hS => hS.2.2) (fun w2 hS => ⟨(sb_other w2 E1 (by omega)).trans hS.1, grown_step hS.2.1 (sb_grown w2 _ _) (Nat.le_refl _), .inr (hS.2.2.elim sb_same sb_same)⟩),
                    obt_stamp 12 rfl rfl rfl rfl (by kernel_rfl) rfl,
                    trivial⟩
                case fin =>
                  intro a' w' h1 h2 h3 hS h4 K hK
                  have v35 : a'.tmps.getD 35 undef = .map (some w.heap.size) := h4 0 35 rfl (by decide)
                  have v48 : a'.tmps.getD 48 undef = .int .i64 st := h4 13 48 rfl (by decide)
                  have v46 : a'.tmps.getD 46 undef = .int .i64 (c + n) := h4 11 46 rfl (by decide)
                  have hb1 : w'.heap[w.heap.size]? = some E1 := (h4 12 47 rfl (by decide)).2
                  obtain ⟨E', hrun, hlm'⟩ := HE.out.store w' (c + n) (WalkArith.wf_i64 (by omega)) hb1
                  refine run_skip (w' := setBlock w' w.heap.size E') ?_ (hK _ _ ?_)
                  · exact exec_storeK rfl v35 v48 v46 hrun
                  · have HFE : ∀ k', upE C f (R * C) (ds.take j) (dx, dy) (C * y + (x + 1)) k' = setK (upE C f (R * C) (ds.take j) (dx, dy) (C * y + x)) k (c + n) k' := fun k' => by
                      unfold upE setK
                      rw [HBE.out k']
                      by_cases e : k' = k
                      · rw [if_pos e, if_pos (by rw [e, HK.out]), HCC.out, e, HNN.out]; unfold upE; omega
                      · rw [if_neg e, if_neg (fun h => e (by rw [h, HK.out]))]
                    have HT : ∀ k', setK (thereK (upL C (nzF f) (R * C) (ds.take j) (dx, dy) (C * y + x))) k true k' = thereK (upL C (nzF f) (R * C) (ds.take j) (dx, dy) (C * y + (x + 1))) k' := fun k' => by
                      unfold thereK setK upL
                      rw [HBK.out k']
                      by_cases e : k' = k
                      · rw [if_pos e, if_pos (by rw [e, HK.out])]
                        have q1 := linesC_range C (nzF f) (R * C) k' (ds.take j)
                        have q2 := lineC_range C (nzF f) (dx, dy) (C * y + x) k'
                        exact (decide_eq_true (by omega)).symm
                      · rw [if_neg e, if_neg (fun h => e (by rw [h, HK.out]))]
                    have Q1 := hide (lm_congr hlm' (fun k' _ => HT k') (fun k' _ => (HFE k').symm))
                    have Q2 := hide (grown_step hS.2.1 (sb_grown w' _ E') (Nat.le_refl _))
                    have Q3 : Hid (DirAt (setBlock w' w.heap.size E') wo.heap.size dx dy) := hide ((sb_other w' E' (by omega)).trans hS.1)
                    have ha := frame_ov rfl h1 h2 h3 [(35, .map (some w.heap.size)), (36, .agg #[.int .i64 dx, .int .i64 dy]), (37, .slice (some ⟨g', o', none⟩) C c'), (38, .int .i64 C), (39, .agg #[.int .i64 dx, .int .i64 dy]), (40, .int .i64 y), (41, .int .i64 x), (42, .int .i64 (lnum dx dy C y x)), (43, keyV k), (44, .int .i64 c), (45, .int .i64 n), (46, .int .i64 (c + n)), (47, a'.tmps.getD 47 undef), (48, .int .i64 st)] (by kernel_rfl) ⟨h4 0 35 rfl (by decide), h4 1 36 rfl (by decide), h4 2 37 rfl (by decide), h4 3 38 rfl (by decide), h4 4 39 rfl (by decide), h4 5 40 rfl (by decide), h4 6 41 rfl (by decide), h4 7 42 rfl (by decide), h4 8 43 rfl (by decide), h4 9 44 rfl (by decide), h4 10 45 rfl (by decide), h4 11 46 rfl (by decide), rfl, h4 13 48 rfl (by decide), trivial⟩
                    dsimp only [ov, List.lookup, Nat.reduceBEq, Nat.reduceAdd] at ha
                    have hp : a'.put none undef = a' := rfl
                    clear hrun hlm' HFE HT hb1 v35 v48 v46 h1 h2 h3 h4 hS hst hout
                    rw [show (Option.none : Option Tmp) = none from rfl] at hp
                    refine (congrArg (fun q => Exit.inBlock 5 _ Exit.normal q (setBlock w' w.heap.size E')) (hp.trans ha)).mpr ?_
                    generalize a'.tmps.getD 47 undef = q47
                    generalize setBlock w' w.heap.size E' = w4 at Q1 Q2 Q3 ⊢
                    clear ha hp
                    go_wp2
                    go_roundw
                    case rel => exact ⟨x + 1, by omega, by go_num, Q1.out, Q2.out, Q3.out⟩
                    case measure => simp [intOf]; omega
            · obtain rfl : x = C := by omega
              go_wp2
              go_roundw
              case rel => exact ⟨y + 1, by omega, by go_num, by rw [Nat.mul_succ]; exact HLM3.out, HB3.out, HG3.out⟩
              case measure => simp [intOf]; omega
        · obtain rfl : y = R := by omega
          have HE : Hid (∀ k, upL C (nzF f) (y * C) (ds.take j) (dx, dy) (C * y) k = linesC C (nzF f) (y * C) k (ds.take (j + 1))) := hide fun k => by
            rw [HTK.out, HD.out, linesC_snoc, upL, Nat.mul_comm C y]
          have HEE : Hid (∀ k, upE C f (y * C) (ds.take j) (dx, dy) (C * y) k = linesE C f (y * C) k (ds.take (j + 1))) := hide fun k => by
            rw [HTK.out, HD.out, linesE_snoc, upE, Nat.mul_comm C y]
          have hcy : C * y ≤ 25 := Nat.mul_le_mul c2 r2
          go_wp2
          go_roundw
          case rel => exact ⟨j + 1, by omega, by go_num, lm_congr (lm_mono HLM.out (by omega)) (fun k _ => by unfold thereK; rw [HE.out k]) (fun k _ => HEE.out k), HB2.out⟩
          case measure => simp [intOf]; omega
    · obtain rfl : j = L := by omega
      have HE : Hid (ds.take j = ds) := hide (List.take_of_length_le (by have := HL.out; omega))
      go_wp2
      go_ret
      exact ⟨_, rfl, Nat.le_refl _, by have := HLM.out; rw [HE.out] at this; exact lm_mono this (by omega), HB.out⟩
theorem lineMapOf_any (v u : Value) (R C : Nat) (f : Nat → Nat → Int) (ds : List (Int × Int)) (w : World) (hin : InMat w v (mkM R C f)) (hI : Img R C f) (hd : InDirs w u ds) (hl : ds.length ≤ 2) (hok : ∀ d ∈ ds, Near d.1 d.2) :
    Calls Tryz.prog 83 #[v, u] w fun e w' => ∃ b, e = .returned (.map (some b)) ∧ w.heap.size ≤ b ∧ LM w' b 50 (thereK fun k => linesC C f (R * C) k ds) (fun k => linesC C f (R * C) k ds) ∧ Below w.heap.size w w' :=
  (lineMapOf_el v u R C f ds w hin ⟨hI.r1, hI.r2⟩ ⟨hI.c1, hI.c2⟩ (img_small hI) hd hl hok).mono fun e w' ⟨b, he, hb, hm, hB⟩ => ⟨b, he, hb, lm_congr hm (fun k _ => by simp only [thereK, img_linesN hI]) (fun k _ => img_linesE hI k ds), hB⟩
end Go.Proofs.YtjnnoabaepmcnaaGreat
/-
  The list of a map's numbers: lineMap.list.
-/
namespace Go.Proofs.YtjnnoabaepmcnaaGreat
open Go.RowKit Go.Maps
open Go.ChangeMaps (setBlock)
set_option maxRecDepth 100000

theorem lm_absent {w : World} {b n : Nat} {A : Key → Bool} {F : Key → Int} (h : LM w b n A F) {k : Key} (hk : k.wf) (ha : A k = false) : F k = 0 := by
  obtain ⟨D, hD, hr⟩ := h
  have h1 := hr k hk
  rw [ha] at h1
  have := atKey_of_not_has h1.1 (.lit (.int .i64 0) : DataW Unit)
  rw [h1.2] at this
  simpa using this
theorem rowF_ints (N : Nat) (f g : Nat → Int) (h : ∀ i, i < N → f i = g i) : ints (rowF N f) = ints (rowF N g) := by rw [rowF_congr h]
theorem zeros_rowF (N : Nat) : List.replicate N (Value.int .i64 0) = ints (rowF N fun _ => 0) := by
  apply List.ext_getElem
  · simp [ints, rowF]
  · intro i h1 h2; simp [ints, rowF]

def RowRes (N : Nat) (f : Nat → Int) (w : World) (e : Ending) (w' : World) : Prop := ∃ v, e = .returned v ∧ w'.ownsRow w.heap.size 3 1 v N (ints (rowF N f)) ∧ Below w.heap.size w w'
set_option maxHeartbeats 2000000 in
theorem list_any (b n N : Nat) (A : Key → Bool) (F : Key → Int) (dx dy : Int) (w : World) (h : LM w b n A F) (hA : ∀ k : Key, k.wf → A k = true → (k.x = dx ∧ k.y = dy) ∧ 0 ≤ k.n ∧ k.n < N) (hN : N ≤ 1000) (hx : (Lit.int .i64 dx).wf = true) (hy : (Lit.int .i64 dy).wf = true) :
    Calls Tryz.prog 84 #[.map (some b), .int .i64 N] w (RowRes N (fun i => F ⟨dx, dy, i⟩) w) := by
  have HLM := hide h; have HA := hide hA
  have hbl := lm_lt h
  have HWF : Hid (∀ i : Nat, i < N → (⟨dx, dy, i⟩ : Key).wf) := hide fun i hi => key_wf hx hy (WalkArith.wf_i64 (by omega))
  clear h hA hx hy
  go_enter Tryz.func84, Tryz.ntmps84
  go_wp2_with (first | (at_make; refine wpList_new w.heap.size N (.int .i64 0) rfl _ _ rfl Tryz.underlying23 Tryz.infoInt rfl (by decide) rfl rfl (by omega) (Nat.le_refl _) ?_; intro w1 hown1 hb1 hg1; have HO1 := hide hown1; have HB1 := hide hb1; have HL1 := hide (lm_below HLM.out hb1); have hsz1 := hb1.size; have hgl := (hown1.lt _ rfl).2; clear hown1 hb1 hg1) | (at_range; refine wpList_rangeLM w1 rfl _ rfl rfl HL1.out ?_; intro w2 cnt hlr hb2 hs2; have HR2 := hide hlr; have HB2 := hide hb2; clear hlr hb2))
  obtain ⟨G, hG⟩ : ∃ G, G = w.heap.size := ⟨_, rfl⟩
  obtain ⟨r, hr⟩ : ∃ r, r = w1.heap.size := ⟨_, rfl⟩
  have HGG := hide hG; have HRR := hide hr
  rw [← hG] at HO1 hgl hbl ⊢
  rw [← hr] at HR2 hgl hs2 ⊢
  clear hG hr
  have HBW := hide (HB1.out.trans (HB2.out.mono hsz1))
  have HO2 := hide (own_below HO1.out HB2.out)
  go_loopw [6] (fun _ wr => ∃ (left : Key → Bool) (cnt : Nat), LR wr b r n A F left cnt ∧ (∀ k : Key, left k = true → A k = true) ∧ wr.ownsRow G 3 1 (.slice (some ⟨G, 0, none⟩) N N) N (ints (rowF N fun i => if left ⟨dx, dy, i⟩ = true then 0 else F ⟨dx, dy, i⟩)) ∧ Below w.heap.size w wr) (fun _ wr => wr.rangeLeft b r)
  case atStart =>
    refine ⟨A, cnt, HR2.out, fun k h => h, ?_, HBW.out⟩
    have e : List.replicate N (Value.int .i64 0) = ints (rowF N fun i => if A ⟨dx, dy, i⟩ = true then 0 else F ⟨dx, dy, i⟩) := by
      rw [zeros_rowF]
      refine rowF_ints N _ _ fun i hi => ?_
      cases h : A ⟨dx, dy, i⟩ with
      | true => rfl
      | false => simp only [Bool.false_eq_true, if_false]; exact (lm_absent HL1.out (HWF.out i hi) h).symm
    rw [← e]; exact HO2.out
  case round =>
    obtain ⟨left, cnt', hlr, hle, ho, hb⟩ := hrel
    have HR := hide hlr; have HE := hide hle; have HO := hide ho; have HB := hide hb
    have hrw := lr_lt hlr
    have hgw := (ho.lt _ rfl).2
    clear hlr hle ho hb
    go_wp2_with (at_next; refine wpList_nextLR wr rfl _ rfl rfl HR.out ?_ ?_)
    · intro hd
      have HD := hide hd
      clear hd
      go_wp2
      go_ret
      refine ⟨_, rfl, ?_, HB.out⟩
      have e : ints (rowF N fun i => if left ⟨dx, dy, i⟩ = true then 0 else F ⟨dx, dy, i⟩) = ints (rowF N fun i => F ⟨dx, dy, i⟩) := rowF_ints N _ _ fun i hi => by rw [HD.out _ (HWF.out i hi)]; simp
      rw [← e, ← HGG.out]; exact HO.out
    · intro k w3 cnt3 hkw hlk hlr3 hlt hg3 hs3 hen
      obtain ⟨⟨hkx, hky⟩, hk0, hkN⟩ := HA.out k hkw (HE.out k hlk)
      obtain ⟨kx, ky, kn⟩ := k
      simp only at hkx hky hk0 hkN
      subst hkx hky
      obtain ⟨i, rfl⟩ : ∃ i : Nat, kn = i := ⟨kn.toNat, by omega⟩
      have hiN : i < N := by omega
      have HLR3 := hide hlr3
      have hgw3 : G < w3.heap.size := by omega
      have ho3 := HO.out.kept hg3 (.inr (by simp [Value.ownBlock]; omega))
      have hcl := cell_held ho3 hiN
      have hfz := ho3.frozenAt i
      obtain ⟨c, hc⟩ : ∃ c, c = F ⟨kx, ky, i⟩ := ⟨_, rfl⟩
      have HC := hide hc
      obtain ⟨z0, hz0⟩ : ∃ z0, z0 = (ints (rowF N fun i => if left ⟨kx, ky, i⟩ = true then 0 else F ⟨kx, ky, i⟩)).getD i undef := ⟨_, rfl⟩
      rw [← hz0] at hcl
      rw [← hc] at hen ⊢
      unfold keyV at hen ⊢
      simp only at hen ⊢
      obtain ⟨s1, s2⟩ := ho3.stored i (.int .i64 c)
      have s2' : w3.grownBy (w3.setCell ⟨G, i, none⟩ (.int .i64 c)) (some G) := s2
      have hal : Below (w3.setCell ⟨G, i, none⟩ (.int .i64 c)).heap.size (w3.setCell ⟨G, i, none⟩ (.int .i64 c)) ((w3.setCell ⟨G, i, none⟩ (.int .i64 c)).alloc (.cells #[.int .i64 kx, .int .i64 ky, .int .i64 i] 103)) := (Below.refl _ _).alloc (Nat.le_refl _) _
      have HL4 := hide (lr_below (lr_grown HLR3.out s2' (by simp; omega) (by simp; omega)) hal)
      have HB4 : Hid (Below w.heap.size w ((w3.setCell ⟨G, i, none⟩ (.int .i64 c)).alloc (.cells #[.int .i64 kx, .int .i64 ky, .int .i64 i] 103))) := hide (by
        have q1 : Below w.heap.size w w3 := HB.out.trans (grown_below hg3 (fun k hk => by cases hk; rw [HRR.out]; exact hsz1) HB.out.size)
        have q2 := q1.trans (grown_below s2' (fun k hk => by cases hk; rw [HGG.out]; exact Nat.le_refl _) q1.size)
        exact q2.trans (hal.mono q2.size))
      have HS4 : Hid (((w3.setCell ⟨G, i, none⟩ (.int .i64 c)).alloc (.cells #[.int .i64 kx, .int .i64 ky, .int .i64 i] 103)).ownsRow G 3 1 (.slice (some ⟨G, 0, none⟩) N N) N (ints (rowF N fun j => if (left ⟨kx, ky, j⟩ && !decide ((⟨kx, ky, j⟩ : Key) = ⟨kx, ky, i⟩)) = true then 0 else F ⟨kx, ky, j⟩))) := hide (by
        rw [ints_set, rowF_set] at s1
        have e : ints (rowF N fun j => if j = i then c else if left ⟨kx, ky, j⟩ = true then 0 else F ⟨kx, ky, j⟩) = ints (rowF N fun j => if (left ⟨kx, ky, j⟩ && !decide ((⟨kx, ky, j⟩ : Key) = ⟨kx, ky, i⟩)) = true then 0 else F ⟨kx, ky, j⟩) := rowF_ints N _ _ fun j hj => by
          by_cases hji : j = i
          · subst hji; rw [if_pos rfl, decide_eq_true rfl]; simp [HC.out]
          · rw [if_neg hji, decide_eq_false (fun h => hji (by cases h; rfl))]; simp
        rw [← e]; exact s1.alloc _)
      have HE4 : Hid (∀ z : Key, (left z && !decide (z = ⟨kx, ky, i⟩)) = true → A z = true) := hide fun z hz => by
        rw [Bool.and_eq_true] at hz; exact HE.out z hz.1
      clear hlr3 ho3 hal s1 s2 s2' hg3 hc hz0 hlk hkw
      go_wp2
      go_roundw
      case rel => exact ⟨_, cnt3, HL4.out, HE4.out, HS4.out, HB4.out⟩
      case measure => rw [lr_left HL4.out, lr_left HR.out]; exact hlt
end Go.Proofs.YtjnnoabaepmcnaaGreat
/-
  lineMap.cancel: one map of lines less another one.
-/
namespace Go.Proofs.YtjnnoabaepmcnaaGreat
open Go.RowKit Go.Maps
open Go.ChangeMaps (setBlock)

theorem grown_drew (w : World) (row : Option Nat) : w.grownBy w.drew row := ⟨rfl, rfl, rfl, Nat.le_refl _, fun _ _ _ => rfl⟩
theorem lr_cnt {w : World} {b r n : Nat} {A : Key → Bool} {F : Key → Int} {left : Key → Bool} {cnt : Nat} (h : LR w b r n A F left cnt) : cnt ≤ n := by
  obtain ⟨D, lf, ⟨es, clock, since, seen, c0, _, _, hs, _, _, _, hc, _⟩, -⟩ := h
  have : (leftOf es seen).size ≤ es.size := Array.size_filter_le
  omega
theorem exec_loadKey {ρ : Operand → Value} {o : Oper} {w : World} {x : Operand} {g : Nat} {k : Key} (ho : o.op = .load 103 x) (hx : ρ x = .pointer (some ⟨g, 0, none⟩)) (hd : w.heap[g]? = some (.cells #[.int .i64 k.x, .int .i64 k.y, .int .i64 k.n] 103 (0, 0))) :
    (execOp ρ o).run Tryz.prog w = .ok (.value (keyV k)) w := by
  unfold execOp keyV
  simp only [ho, hx, Instr.loadAt, Instr.sureAddr, Sem.run_bind, Sem.run_pure, Result.andThen_ok, run_loadVar_row w g _ _ _ _ _ hd Tryz.underlying103 rfl (show (Tryz.prog.info? 103).map (·.size) = some 3 by kernel_rfl)]
theorem wpList_loadKey {ops : Array Oper} {rest : List Oper} {o : Oper} {a : Act} {Q : Exit → Act → World → Prop} {W : World} {g : Nat} {k : Key} (hb : W.heap[g]? = some (.cells #[.int .i64 k.x, .int .i64 k.y, .int .i64 k.n] 103 (0, 0)))
    (hgd : o.guard = none) (x : Operand) (ho : o.op = .load 103 x) (hx : a.eval x = .pointer (some ⟨g, 0, none⟩))
    (h : wpList Tryz.prog ops Q rest (a.put o.dst (keyV k)) W) : wpList Tryz.prog ops Q (o :: rest) a W :=
  wpList_plain hgd fun _ hK => run_value _ (exec_loadKey ho hx hb) (hK _ _ h)

def CancelRes (b1 : Nat) (F1 F2 : Key → Int) (w : World) (e : Ending) (w' : World) : Prop :=
  ∃ nn, e = .returned (.tuple #[]) ∧ nn ≤ 200 ∧ LM w' b1 nn (thereK fun k => F1 k - F2 k) (fun k => F1 k - F2 k) ∧ w.grownBy w' (some b1)
/-- What has been taken away, as long as 'left' are still to come. -/
def lessK (A2 : Key → Bool) (F1 F2 : Key → Int) (left : Key → Bool) (k : Key) : Int := F1 k - if A2 k = true ∧ left k = false then F2 k else 0

end Go.Proofs.YtjnnoabaepmcnaaGreat
/-
  LineSums of the program.
-/
namespace Go.Proofs.YtjnnoabaepmcnaaGreat
open Go.RowKit Go.Maps

theorem exec_dirs1 {ρ : Operand → Value} {o : Oper} {w : World} {x : Operand} {dx dy : Int} (ho : o.op = .buildSlice 100 1 #[(0, x)]) (hx : ρ x = .agg #[.int .i64 dx, .int .i64 dy]) :
    (execOp ρ o).run Tryz.prog w = .ok (.value (.slice (some ⟨w.heap.size, 0, none⟩) 1 1)) (w.alloc (.cells #[.int .i64 dx, .int .i64 dy] 70)) := by
  unfold execOp
  simp only [ho]
  go_simp
theorem exec_dirs2 {ρ : Operand → Value} {o : Oper} {w : World} {x y : Operand} {dx dy ex ey : Int} (ho : o.op = .buildSlice 100 2 #[(0, x), (1, y)]) (hx : ρ x = .agg #[.int .i64 dx, .int .i64 dy]) (hy : ρ y = .agg #[.int .i64 ex, .int .i64 ey]) :
    (execOp ρ o).run Tryz.prog w = .ok (.value (.slice (some ⟨w.heap.size, 0, none⟩) 2 2)) (w.alloc (.cells #[.int .i64 dx, .int .i64 dy, .int .i64 ex, .int .i64 ey] 70)) := by
  unfold execOp
  simp only [ho]
  go_simp
theorem inDirs1 (w : World) (dx dy : Int) : InDirs (w.alloc (.cells #[.int .i64 dx, .int .i64 dy] 70)) (.slice (some ⟨w.heap.size, 0, none⟩) 1 1) [(dx, dy)] := by
  refine ⟨w.heap.size, 1, rfl, by simp, fun i hi => ?_⟩
  have : i = 0 := by simp at hi; omega
  subst this
  exact ⟨by simp [World.cell?_alloc_new], by simp [World.cell?_alloc_new]⟩
theorem inDirs2 (w : World) (dx dy ex ey : Int) : InDirs (w.alloc (.cells #[.int .i64 dx, .int .i64 dy, .int .i64 ex, .int .i64 ey] 70)) (.slice (some ⟨w.heap.size, 0, none⟩) 2 2) [(dx, dy), (ex, ey)] := by
  refine ⟨w.heap.size, 2, rfl, by simp, fun i hi => ?_⟩
  have : i = 0 ∨ i = 1 := by simp at hi; omega
  rcases this with rfl | rfl
  · exact ⟨by simp [World.cell?_alloc_new], by simp [World.cell?_alloc_new]⟩
  · exact ⟨by simp [World.cell?_alloc_new], by simp [World.cell?_alloc_new]⟩

theorem cnt_pos {p : Nat → Bool} {N : Nat} (h : cnt p N ≠ 0) : ∃ i, i < N ∧ p i = true := by
  induction N with
  | zero => exact absurd rfl h
  | succ N ih =>
    cases e : p N with
    | true => exact ⟨N, Nat.lt_succ_self _, e⟩
    | false =>
      rw [cnt_no e] at h
      obtain ⟨i, hi, hp⟩ := ih h
      exact ⟨i, Nat.lt_succ_of_lt hi, hp⟩
/-- The number of black cells on each line. -/
def lineRow (R C : Nat) (f : Nat → Nat → Int) (dx dy : Int) (N : Nat) : List Int := rowF N fun i => (cnt (onL C f (dx, dy) i) (R * C) : Nat)
theorem line_one {R C : Nat} {f : Nat → Nat → Int} {dx dy : Int} (i : Nat) : linesC C f (R * C) ⟨dx, dy, i⟩ [(dx, dy)] = (cnt (onL C f (dx, dy) i) (R * C) : Nat) := by
  simp [linesC, lineC]
theorem line_there {R C N : Nat} {f : Nat → Nat → Int} {dx dy : Int} (hn : Near dx dy) (hR : 1 ≤ R ∧ R ≤ 5) (hC : 1 ≤ C ∧ C ≤ 5) (hN : (N : Int) = countL R C dx dy) (k : Key) (h : thereK (fun k => linesC C f (R * C) k [(dx, dy)]) k = true) : (k.x = dx ∧ k.y = dy) ∧ 0 ≤ k.n ∧ k.n < N := by
  simp only [thereK, linesC, Int.add_zero, decide_eq_true_eq] at h
  unfold lineC at h
  by_cases e : k.x = dx ∧ k.y = dy
  · rw [if_pos e] at h
    obtain ⟨i, hi, hp⟩ := cnt_pos (p := onL C f (dx, dy) k.n) (N := R * C) (by omega)
    simp only [onL, Bool.and_eq_true, beq_iff_eq] at hp
    have hx := Nat.mod_lt i (show C > 0 by omega)
    have hy : i / C < R := Nat.div_lt_of_lt_mul (by rw [Nat.mul_comm]; exact hi)
    generalize i / C = Y at hp hy
    generalize i % C = X at hp hx
    obtain ⟨p1, p2, p3⟩ := lnum_range (rows := R) (cols := C) (y := Y) (x := X) hn (by omega) (by omega) (by omega) (by omega) (by omega) (by omega) (by omega) (by omega)
    refine ⟨e, by omega, ?_⟩
    rw [hN]; unfold countL; omega
  · rw [if_neg e] at h; exact absurd rfl h
theorem countL_size {R C : Nat} {dx dy : Int} (hn : Near dx dy) (hR : 1 ≤ R ∧ R ≤ 5) (hC : 1 ≤ C ∧ C ≤ 5) : ∃ N : Nat, (N : Int) = countL R C dx dy ∧ N ≤ 41 := by
  obtain ⟨p1, p2, -⟩ := lnum_range (rows := R) (cols := C) (y := (R : Int) - 1) (x := 0) hn (by omega) (by omega) (by omega) (by omega) (by omega) (by omega) (by omega) (by omega)
  obtain ⟨q1, q2, -⟩ := lnum_range (rows := R) (cols := C) (y := (R : Int) - 1) (x := (C : Int) - 1) hn (by omega) (by omega) (by omega) (by omega) (by omega) (by omega) (by omega) (by omega)
  refine ⟨(countL R C dx dy).toNat, ?_, ?_⟩ <;> unfold countL <;> omega
theorem countL_nat {R C : Nat} {f : Nat → Nat → Int} {dx dy : Int} (hn : Near dx dy) (hI : Img R C f) : ∃ N : Nat, (N : Int) = countL R C dx dy ∧ N ≤ 41 := countL_size hn ⟨hI.r1, hI.r2⟩ ⟨hI.c1, hI.c2⟩
/-- The sum of the elements on each line. -/
def lineRowE (R C : Nat) (f : Nat → Nat → Int) (dx dy : Int) (N : Nat) : List Int := rowF N fun i => sumF (elL C f (dx, dy) i) (R * C)
theorem line_oneE {R C : Nat} {f : Nat → Nat → Int} {dx dy : Int} (i : Nat) : linesE C f (R * C) ⟨dx, dy, i⟩ [(dx, dy)] = sumF (elL C f (dx, dy) i) (R * C) := by
  simp [linesE, lineE]
theorem lineRow_img {R C : Nat} {f : Nat → Nat → Int} (hI : Img R C f) (dx dy : Int) (N : Nat) : lineRowE R C f dx dy N = lineRow R C f dx dy N := rowF_congr fun i _ => by
  rw [← line_oneE, ← line_one, img_linesE hI]

set_option maxHeartbeats 400000 in
theorem implLineSums_img (v : Value) (m : List (List Int)) (dx dy : Int) (w : World) (hin : InMat w v m) (h : okB m = false) :
    Calls Tryz.prog 63 #[v, .agg #[.int .i64 dx, .int .i64 dy]] w (IntsRes [] w) := by
  have HB := hide ((Below.refl w.heap.size w).alloc (Nat.le_refl _) (.cells #[.int .i64 dx, .int .i64 dy] 70))
  have HI := hide (inMat_below hin HB.out); have H := hide h
  clear hin h
  go_enter Tryz.func63, Tryz.ntmps63
  go_wp2_with ((with_reducible refine (implImageOk_any v m _ HI.out).mono ?_); rw [H.out]; rintro e w' ⟨rfl, rfl⟩)
  go_ret
  exact intsRes_nil HB.out
set_option maxHeartbeats 400000 in
theorem implLineSums_dir (v : Value) (m : List (List Int)) (dx dy : Int) (w : World) (hin : InMat w v m) (h : okB m = true) (hd : dirOk dx dy = false) :
    Calls Tryz.prog 63 #[v, .agg #[.int .i64 dx, .int .i64 dy]] w (IntsRes [] w) := by
  have HB := hide ((Below.refl w.heap.size w).alloc (Nat.le_refl _) (.cells #[.int .i64 dx, .int .i64 dy] 70))
  have HI := hide (inMat_below hin HB.out); have H := hide h; have HD := hide hd
  clear hin h hd
  go_enter Tryz.func63, Tryz.ntmps63
  go_wp2_with (first | ((with_reducible refine (implImageOk_any v m _ HI.out).mono ?_); rw [H.out]; rintro e w' ⟨rfl, rfl⟩) | ((with_reducible refine (implDirectionOk_any dx dy _).mono ?_); rw [HD.out]; rintro e w1 ⟨rfl, hb⟩; have HB1 := hide (HB.out.trans (hb.mono HB.out.size)); clear hb))
  go_ret
  exact intsRes_nil HB1.out

set_option maxRecDepth 100000 in
set_option maxHeartbeats 2000000 in
theorem sumsAlong_any (v : Value) (R C N : Nat) (f : Nat → Nat → Int) (dx dy : Int) (w : World) (hin : InMat w v (mkM R C f)) (hR : 1 ≤ R ∧ R ≤ 5) (hC : 1 ≤ C ∧ C ≤ 5) (hS : Small R C f) (hd : dirOk dx dy = true) (hN : (N : Int) = countL R C dx dy) (hN2 : N ≤ 41) :
    Calls Tryz.prog 72 #[v, .agg #[.int .i64 dx, .int .i64 dy]] w (IntsRes (lineRowE R C f dx dy N) w) := by
  have hb0 := (Below.refl w.heap.size w).alloc (Nat.le_refl _) (.cells #[.int .i64 dx, .int .i64 dy] 70)
  have HM := hide hin
  have HRR := hide hR; have HCC := hide hC; have HSM := hide hS; have HD := hide hd; have HN := hide (near_of hd); have HNN := hide hN
  have HB0 := hide hb0
  have HZ : Hid ((sizeOk R C && dirOk dx dy) = true) := hide (by rw [hd, sizeOk, decide_eq_true (show (1 : Int) ≤ R ∧ (R : Int) ≤ 5 by omega), decide_eq_true (show (1 : Int) ≤ C ∧ (C : Int) ≤ 5 by omega)]; rfl)
  obtain ⟨g, o, cap, rfl, hg, hrow⟩ := inMat_img hin (by omega) (by omega)
  obtain ⟨g', o', c', hcr, hg', -⟩ := hrow 0 (by omega)
  have hR0 : 0 < R := by omega
  rw [Nat.add_zero] at hcr
  have HCR := hide hcr
  have HG0 := hide (show DirAt (w.alloc (.cells #[.int .i64 dx, .int .i64 dy] 70)) w.heap.size dx dy from heap_alloc_new w _)
  clear hin hd hN hrow hb0 hcr hS hR hC
  go_enter Tryz.func72, Tryz.ntmps72
  go_upto_region 1 with fail
  obtain ⟨fs, hfs⟩ : ∃ fs : List FactP, fs = [(isV (.slice (some ⟨g, o, none⟩) R cap)), (isV (.agg #[.int .i64 dx, .int .i64 dy])), (fun u w2 => InDirs w2 u [(dx, dy)]), (fun u w2 => ∃ b, u = .map (some b) ∧ LM w2 b 50 (thereK (fun k => linesC C (nzF f) (R * C) k [(dx, dy)])) (fun k => linesE C f (R * C) k [(dx, dy)])), (isV (.slice (some ⟨g, o, none⟩) R cap)), (isV (.int .i64 R)), (isV (.slice (some ⟨g, o, none⟩) R cap)), (isV (.pointer (some ⟨g, o, none⟩))), (isV (.slice (some ⟨g', o', none⟩) C c')), (isV (.int .i64 C)), (isV (.agg #[.int .i64 dx, .int .i64 dy])), (isV (.int .i64 N)), (fun u w2 => w2.ownsRow w.heap.size 3 1 u N (ints (rowF N fun i => linesE C f (R * C) ⟨dx, dy, i⟩ [(dx, dy)])))] := ⟨_, rfl⟩
  have hst : ∀ f ∈ fs, StableP f := by
    rw [hfs]; intro f hf
    simp only [List.mem_cons, List.not_mem_nil, or_false] at hf
    rcases hf with rfl | rfl | rfl | rfl | rfl | rfl | rfl | rfl | rfl | rfl | rfl | rfl | rfl <;> first | exact stable_v _ | exact fun u w2 w3 hb h => inDirs_below h hb | exact fun u w2 w3 hb h => ⟨h.choose, h.choose_spec.1, lm_below h.choose_spec.2 hb⟩ | exact fun u w2 w3 hb h => own_below h hb
  subst hfs
  refine wp_region_tail (S := fun w2 => DirAt w2 w.heap.size dx dy ∧ Below w.heap.size w w2) [(isV (.slice (some ⟨g, o, none⟩) R cap)), (isV (.agg #[.int .i64 dx, .int .i64 dy])), (fun u w2 => InDirs w2 u [(dx, dy)]), (fun u w2 => ∃ b, u = .map (some b) ∧ LM w2 b 50 (thereK (fun k => linesC C (nzF f) (R * C) k [(dx, dy)])) (fun k => linesE C f (R * C) k [(dx, dy)])), (isV (.slice (some ⟨g, o, none⟩) R cap)), (isV (.int .i64 R)), (isV (.slice (some ⟨g, o, none⟩) R cap)), (isV (.pointer (some ⟨g, o, none⟩))), (isV (.slice (some ⟨g', o', none⟩) C c')), (isV (.int .i64 C)), (isV (.agg #[.int .i64 dx, .int .i64 dy])), (isV (.int .i64 N)), (fun u w2 => w2.ownsRow w.heap.size 3 1 u N (ints (rowF N fun i => linesE C f (R * C) ⟨dx, dy, i⟩ [(dx, dy)])))] [(0, .slice (some ⟨g, o, none⟩) R cap), (3, .pointer (some ⟨w.heap.size, 0, none⟩))] _ _ 13 (by kernel_rfl) rfl rfl (by kernel_rfl) (by kernel_rfl) rfl (by kernel_rfl) ?base ⟨HG0.out, below_drew HB0.out⟩ ?ob rfl ?fin
  case base =>
    intro t v ht
    simp only [List.lookup_cons, List.lookup_nil] at ht
    repeat' split at ht
    all_goals first | (cases ht; done) | (obtain rfl := Option.some.inj ht; rename_i hh; obtain rfl := eq_of_beq hh; rfl)
  case ob =>
    exact ⟨obt_move (.slice (some ⟨g, o, none⟩) R cap) rfl rfl rfl (srt_b 0 rfl),
      obt_one (.agg #[.int .i64 dx, .int .i64 dy]) rfl rfl (srt_b 3 rfl) (fun ρ w2 hS hx => exec_loadDir rfl hx hS.1),
      obt_make hst rfl (fun a w2 hS hs => by
      have hh : Below w2.heap.size w2 (w2.alloc (.cells #[.int .i64 dx, .int .i64 dy] 70)) := (Below.refl _ _).alloc (Nat.le_refl _) _
      exact ⟨_, _, exec_dirs1 rfl (hs _ _ (srt_j 1 rfl (by kernel_rfl) rfl)), ⟨dirAt_below hS.1 hh, hS.2.trans (hh.mono hS.2.size)⟩, hh, inDirs1 w2 dx dy⟩),
      obt_call_r hst 2 rfl Tryz.func83 (by kernel_rfl) (by kernel_rfl) rfl rfl (by kernel_rfl) (srt_j 0 rfl (by kernel_rfl) rfl) (fun v w2 hS hf => (lineMapOf_el _ v R C f [(dx, dy)] w2 (inMat_below HM.out hS.2) HRR.out HCC.out HSM.out hf (by simp) (fun d hd => by simp only [List.mem_singleton] at hd; subst hd; exact HN.out)).mono fun e w3 ⟨b, he, _, hl, hh⟩ => ⟨_, he, ⟨dirAt_below hS.1 hh, hS.2.trans (hh.mono hS.2.size)⟩, hh, b, rfl, hl⟩),
      obt_move (.slice (some ⟨g, o, none⟩) R cap) rfl rfl rfl (srt_b 0 rfl),
      obt_one (.int .i64 R) rfl rfl (srt_j 4 rfl (by kernel_rfl) rfl) (fun ρ w2 hS hx => by go_simp),
      obt_move (.slice (some ⟨g, o, none⟩) R cap) rfl rfl rfl (srt_b 0 rfl),
      obt_two (.pointer (some ⟨g, o, none⟩)) rfl rfl (srt_j 6 rfl (by kernel_rfl) rfl) (srt_c (v := .int .i64 0)) (fun ρ w2 hS hx hy => by go_simp),
      obt_one (.slice (some ⟨g', o', none⟩) C c') rfl rfl (srt_j 7 rfl (by kernel_rfl) rfl) (fun ρ w2 hS hx => by have hc := below_cell hS.2 hg HCR.out; go_simp),
      obt_one (.int .i64 C) rfl rfl (srt_j 8 rfl (by kernel_rfl) rfl) (fun ρ w2 hS hx => by go_simp),
      obt_one (.agg #[.int .i64 dx, .int .i64 dy]) rfl rfl (srt_b 3 rfl) (fun ρ w2 hS hx => exec_loadDir rfl hx hS.1),
      obt_call hst [.int .i64 R, .int .i64 C, .agg #[.int .i64 dx, .int .i64 dy]] rfl Tryz.func85 (by kernel_rfl) (by kernel_rfl) rfl ⟨(srt_j 5 rfl (by kernel_rfl) rfl), (srt_j 9 rfl (by kernel_rfl) rfl), (srt_j 10 rfl (by kernel_rfl) rfl), trivial⟩ (fun w2 hS => (implCountLines_any R C dx dy w2).mono fun e w3 ⟨he, hh⟩ => ⟨_, he, ⟨dirAt_below hS.1 hh, hS.2.trans (hh.mono hS.2.size)⟩, hh, by rw [if_pos HZ.out, ← HNN.out]; rfl⟩),
      obt_call_l hst 3 rfl Tryz.func84 (by kernel_rfl) (by kernel_rfl) rfl rfl (by kernel_rfl) (srt_j 11 rfl (by kernel_rfl) rfl) (fun v w2 hS hf => by
      obtain ⟨b, rfl, hl⟩ := hf
      exact (list_any b 50 N _ _ dx dy w2 hl (fun k _ hk => line_there HN.out HRR.out HCC.out HNN.out k hk) (by omega) (WalkArith.wf_i64 (by have := HN.out.x1; have := HN.out.x2; omega)) (WalkArith.wf_i64 (by have := HN.out.y1; have := HN.out.y2; omega))).mono fun e w3 ⟨u, he, ho, hh⟩ => ⟨_, he, ⟨dirAt_below hS.1 hh, hS.2.trans (hh.mono hS.2.size)⟩, hh, own_base ho hS.2.size⟩),
      trivial⟩
  case fin =>
    intro a' w' h1 h2 h3 hS h4 K hK
    obtain ⟨u, HU⟩ : ∃ u, Hid (a'.eval (.tmp 17) = u) := ⟨_, hide rfl⟩
    have HO := hide (h4 12 17 rfl (by decide))
    refine tail_assign rfl HU.out ?_ K hK
    go_wp2
    refine bodyPost_ret (results_tmp rfl _ _ _) rfl ⟨u, congrArg Ending.returned (set_get (d := 4) (n := 18) h1 (by decide)), ?_, hS.2⟩
    have e : lineRowE R C f dx dy N = rowF N fun i => linesE C f (R * C) ⟨dx, dy, i⟩ [(dx, dy)] := rowF_congr fun i _ => (line_oneE i).symm
    rw [e, rowF_len, ← HU.out]; exact HO.out

set_option maxHeartbeats 1000000 in
theorem implLineSums_yes (v : Value) (R C N : Nat) (f : Nat → Nat → Int) (dx dy : Int) (w : World) (hin : InMat w v (mkM R C f)) (hI : Img R C f) (hd : dirOk dx dy = true) (hN : (N : Int) = countL R C dx dy) (hN2 : N ≤ 41) :
    Calls Tryz.prog 63 #[v, .agg #[.int .i64 dx, .int .i64 dy]] w (IntsRes (lineRow R C f dx dy N) w) := by
  have HB := hide ((Below.refl w.heap.size w).alloc (Nat.le_refl _) (.cells #[.int .i64 dx, .int .i64 dy] 70))
  have HM := hide hin; have HI := hide (inMat_below hin HB.out); have H := hide (img_ok hI); have HD := hide hd
  have HG0 := hide (show DirAt (w.alloc (.cells #[.int .i64 dx, .int .i64 dy] 70)) w.heap.size dx dy from heap_alloc_new w _)
  have HS := hide fun w h => sumsAlong_any v R C N f dx dy w h ⟨hI.r1, hI.r2⟩ ⟨hI.c1, hI.c2⟩ (img_small hI) hd hN hN2
  have HE := hide (lineRow_img hI dx dy N)
  clear hin hI hd hN
  go_enter Tryz.func63, Tryz.ntmps63
  go_wp2_with (first | ((with_reducible refine (implImageOk_any _ _ _ HI.out).mono ?_); rw [H.out]; rintro e w' ⟨rfl, rfl⟩) | ((with_reducible refine (implDirectionOk_any dx dy _).mono ?_); rw [HD.out]; rintro e w1 ⟨rfl, hb⟩; have HB1 := hide (HB.out.trans (hb.mono HB.out.size)); have HG1 := hide (dirAt_below HG0.out hb); clear hb) | (with_reducible refine wpList_loadDir HG1.out rfl _ rfl rfl ?_) | ((with_reducible refine (HS.out _ (inMat_below HM.out HB1.out)).mono ?_); rintro e w2 ⟨u, rfl, ho, hb⟩; have HO := hide ho; have HB2 := hide (HB1.out.trans (hb.mono HB1.out.size)); have hs := HB1.out.size; clear ho hb))
  go_ret
  exact ⟨_, rfl, by rw [← HE.out]; exact own_base HO.out hs, HB2.out⟩
end Go.Proofs.YtjnnoabaepmcnaaGreat
/-
  Numbers of black cells by rows, by columns and by lines.
-/
namespace Go.Proofs.YtjnnoabaepmcnaaGreat
open Go.RowKit

theorem cnt_add (p : Nat → Bool) (b : Nat) : ∀ C, cnt p (b + C) = cnt p b + cnt (fun x => p (b + x)) C
  | 0 => rfl
  | C + 1 => by
    have := cnt_add p b C
    rw [← Nat.add_assoc, cnt, cnt, this]; omega
theorem cnt_congr {p q : Nat → Bool} : ∀ {N : Nat}, (∀ i, i < N → p i = q i) → cnt p N = cnt q N
  | 0, _ => rfl
  | N + 1, h => by rw [cnt, cnt, cnt_congr fun i hi => h i (by omega), h N (by omega)]
theorem cnt_none {p : Nat → Bool} {N : Nat} (h : ∀ i, i < N → p i = false) : cnt p N = 0 := cnt_skip (k := 0) (Nat.zero_le _) fun i _ hi => h i hi
theorem cnt_only {p : Nat → Bool} {N j : Nat} (hj : j < N) (h : ∀ i, i < N → i ≠ j → p i = false) : cnt p N = if p j = true then 1 else 0 := by
  have h1 : cnt p N = cnt p (j + 1) := cnt_skip (by omega) fun i h1 h2 => h i h2 (by omega)
  have h2 : cnt p j = 0 := cnt_none fun i hi => h i (by omega) (by omega)
  rw [h1, cnt, h2]; omega
theorem lnum_row (C y x : Nat) : lnum 1 0 C y x = y := by simp [lnum, least]
theorem lnum_col (C y x : Nat) (hx : x < C) : lnum 0 1 C y x = (C : Int) - 1 - x := by unfold lnum least; omega
theorem cnt_rows (C : Nat) (f : Nat → Nat → Int) (n : Int) : ∀ Y : Nat, cnt (onL C f (1, 0) n) (C * Y) = if 0 ≤ n ∧ n < Y then rs C f n.toNat else 0
  | 0 => by rw [if_neg (by omega)]; rfl
  | Y + 1 => by
    have h1 : cnt (fun x => onL C f (1, 0) n (C * Y + x)) C = if n = Y then rs C f Y else 0 := by
      by_cases e : n = Y
      · rw [if_pos e]
        refine cnt_congr fun x hx => ?_
        rw [onL_at hx]
        simp only [lnum_row, e]; simp
      · rw [if_neg e]
        refine cnt_none fun x hx => ?_
        rw [onL_at hx]
        simp only [lnum_row]
        have : ((Y : Int) == n) = false := by simp; omega
        rw [this, Bool.and_false]
    rw [Nat.mul_succ, cnt_add, cnt_rows C f n Y, h1]
    by_cases e : n = Y
    · rw [if_pos e, if_neg (by omega), if_pos (by omega), Nat.zero_add]
      congr 1; omega
    · rw [if_neg e, Nat.add_zero]
      by_cases h : 0 ≤ n ∧ n < Y
      · rw [if_pos h, if_pos (by omega)]
      · rw [if_neg h, if_neg (by omega)]
theorem cnt_cols (C : Nat) (f : Nat → Nat → Int) (n : Int) : ∀ Y : Nat, cnt (onL C f (0, 1) n) (C * Y) = if 0 ≤ n ∧ n < C then cs Y f (C - 1 - n.toNat) else 0
  | 0 => by split <;> rfl
  | Y + 1 => by
    rw [Nat.mul_succ, cnt_add, cnt_cols C f n Y]
    by_cases h : 0 ≤ n ∧ n < C
    · rw [if_pos h, if_pos h]
      have hj : C - 1 - n.toNat < C := by omega
      have h1 : cnt (fun x => onL C f (0, 1) n (C * Y + x)) C = if (f Y (C - 1 - n.toNat) == 1) = true then 1 else 0 := by
        rw [cnt_only hj fun x hx hne => ?_]
        · have e : onL C f (0, 1) n (C * Y + (C - 1 - n.toNat)) = (f Y (C - 1 - n.toNat) == 1) := by
            rw [onL_at hj, lnum_col C Y _ hj]
            have : ((C : Int) - 1 - ((C - 1 - n.toNat : Nat) : Int) == n) = true := by simp; omega
            rw [this, Bool.and_true]
          simp only [e]
        · rw [onL_at hx, lnum_col C Y x hx]
          have : ((C : Int) - 1 - (x : Int) == n) = false := by simp; omega
          rw [this, Bool.and_false]
      rw [h1]; rfl
    · rw [if_neg h, if_neg h, Nat.zero_add]
      refine cnt_none fun x hx => ?_
      rw [onL_at hx, lnum_col C Y x hx]
      have : ((C : Int) - 1 - (x : Int) == n) = false := by simp; omega
      rw [this, Bool.and_false]
theorem lineRow_rows (R C : Nat) (f : Nat → Nat → Int) : lineRow R C f 1 0 R = rowsL R C f := rowF_congr fun i hi => by
  rw [Nat.mul_comm R C, cnt_rows, if_pos (by omega)]; rfl
theorem countL_rows (R C : Nat) : countL R C 1 0 = R := by unfold countL lnum least; omega
end Go.Proofs.YtjnnoabaepmcnaaGreat
/-
  RowSums of the model.
-/
namespace Go.Proofs.YtjnnoabaepmcnaaGreat
open Go.RowKit

set_option maxHeartbeats 400000 in
theorem specRowSums_no (v : Value) (m : List (List Int)) (w : World) (hin : InMat w v m) (h : okB m = false) :
    Calls Tryz.prog 23 #[v] w (IntsRes [] w) := by
  have HI := hide hin; have H := hide h
  clear hin h
  go_enter Tryz.func23, Tryz.ntmps23
  go_wp2_with ((with_reducible refine (specImageOk_any v m _ HI.out).mono ?_); rw [H.out]; rintro e w' ⟨rfl, rfl⟩)
  go_ret
  exact intsRes_nil (Below.refl _ _)
set_option maxHeartbeats 1000000 in
theorem specRowSums_yes (v : Value) (R C : Nat) (f : Nat → Nat → Int) (w : World) (hin : InMat w v (mkM R C f)) (hI : Img R C f) :
    Calls Tryz.prog 23 #[v] w (IntsRes (rowsL R C f) w) := by
  have HM := hide hin; have H := hide hI
  obtain ⟨g, o, cap, rfl, hg, hrow⟩ := inMat_img hin (by have := hI.r1; omega) (by have := hI.c1; omega)
  have HROW := hide hrow
  obtain ⟨r1, r2, c1, c2, -⟩ := hI
  clear hin hrow
  go_enter Tryz.func23, Tryz.ntmps23
  go_wp2_with ((with_reducible refine (specImageOk_any _ _ _ HM.out).mono ?_); rw [img_ok H.out]; rintro e w' ⟨rfl, rfl⟩)
  have HO0 : Hid ((w.alloc (.cells #[] 3)).ownsRow w.heap.size 3 1 (.slice (some ⟨w.heap.size, 0, none⟩) 0 0) 0 []) := hide (World.ownsRow_made (base := w.heap.size) w #[] 0 (Nat.le_refl _) (Nat.zero_le _) rfl)
  have HB0 := hide ((Below.refl w.heap.size w).alloc (Nat.le_refl _) (.cells #[] 3))
  go_loopw [3, 15] (fun s i wr => ∃ y : Nat, y ≤ R ∧ i = .int .i64 y ∧ wr.ownsRow w.heap.size 3 1 s y (ints (rowF y fun k => (rs C f k : Nat))) ∧ Below w.heap.size w wr) (fun _ i _ => R - (intOf i).toNat)
  case atStart => exact ⟨0, Nat.zero_le _, rfl, HO0.out, HB0.out⟩
  case round =>
    obtain ⟨y, hy, rfl, ho, hb⟩ := hrel
    have HB := hide hb
    obtain ⟨sa, sc, rfl⟩ := own_slice ho
    have HO := hide ho
    have hsz := hb.size
    clear ho hb
    by_cases hly : y < R
    · obtain ⟨g', o', c', hcr, hg', hcell⟩ := HROW.out y hly
      have hcr := below_cell HB.out hg hcr
      have HCELL := hide hcell
      clear hcell
      go_wp2
      go_loop [6, 21] (fun n i => ∃ x : Nat, x ≤ C ∧ i = .int .i64 x ∧ n = .int .i64 (cnt (fun x => f y x == 1) x : Nat)) (fun _ i => C - (intOf i).toNat)
      case atStart => exact ⟨0, Nat.zero_le _, rfl, rfl⟩
      case round =>
        obtain ⟨x, hx, rfl, rfl⟩ := hrel
        have hcl := cnt_le (fun x => f y x == 1) x
        by_cases hlx : x < C
        · have hcx := below_cell HB.out hg' (HCELL.out x hlx)
          have HST := hide (rs_cell H.out hly hlx)
          have hf : 0 ≤ f y x ∧ f y x ≤ 1 := by rcases H.out.cell y x hly hlx with e | e <;> rw [e] <;> decide
          obtain ⟨hf0, hf1⟩ := hf
          obtain ⟨z, hz⟩ : ∃ z, z = f y x := ⟨_, rfl⟩
          obtain ⟨q, hq⟩ : ∃ q, q = cnt (fun x => f y x == 1) x := ⟨_, rfl⟩
          rw [← hz] at hcx HST hf0 hf1
          rw [← hq] at HST hcl ⊢
          clear hz hq
          go_wp2
          go_round
          case rel => exact ⟨x + 1, by omega, by go_num, by rw [HST.out]⟩
          case measure => simp [intOf]; omega
        · obtain rfl : x = C := by omega
          obtain ⟨q, hq⟩ : ∃ q, q = cnt (fun z => f y z == 1) x := ⟨_, rfl⟩
          have HQ := hide (show q = rs x f y from hq)
          rw [← hq] at hcl ⊢
          clear hq
          go_wp2_with (at_builtin; refine wpList_push HO.out (.int .i64 q) (.int .i64 0) rfl _ _ rfl Tryz.underlying23 Tryz.infoInt rfl (by decide) rfl rfl rfl (by omega) (by omega) ?_; intro v' w6 hown1 hb1 hg1)
          go_roundw
          case rel =>
            refine ⟨y + 1, by omega, by go_num, ?_, HB.out.trans hb1⟩
            have e : ints (rowF (y + 1) fun k => ((rs x f k : Nat) : Int)) = ints (rowF y fun k => ((rs x f k : Nat) : Int)) ++ [.int .i64 q] := by
              rw [HQ.out]; simp [ints, rowF, List.range_succ]
            rw [e]; exact hown1
          case measure => simp [intOf]; omega
    · obtain rfl : y = R := by omega
      go_wp2
      go_ret
      exact ⟨_, rfl, by rw [rowsL, rowF_len]; exact HO.out, HB.out⟩
end Go.Proofs.YtjnnoabaepmcnaaGreat
/-
  RowSums of both.
-/
namespace Go.Proofs.YtjnnoabaepmcnaaGreat
open Go.RowKit

theorem alongRows_any (w : World) : Calls Tryz.prog 64 #[] w fun e w' => e = .returned (.agg #[.int .i64 1, .int .i64 0]) ∧ Below w.heap.size w w' := by
  go_enter Tryz.func64, Tryz.ntmps64
  go_wp2
  exact bodyPost_ret (v := .agg #[.int .i64 1, .int .i64 0]) (by simp [results, Tryz.results64, go_sem]) rfl ⟨rfl, (Below.refl _ _).alloc (Nat.le_refl _) _⟩
theorem implRowSums_no (v : Value) (m : List (List Int)) (w : World) (hin : InMat w v m) (h : okB m = false) :
    Calls Tryz.prog 46 #[v] w (IntsRes [] w) := by
  have HI := hide hin; have H := hide h
  clear hin h
  go_enter Tryz.func46, Tryz.ntmps46
  go_wp2_with fail
  refine (alongRows_any _).mono ?_
  rintro e w1 ⟨rfl, hb⟩
  have HB := hide hb
  clear hb
  go_wp2_with fail
  refine (implLineSums_img v m 1 0 _ (inMat_below HI.out HB.out) H.out).mono ?_
  rintro e w2 ⟨u, rfl, ho, hb⟩
  have HO := hide (own_base ho HB.out.size); have HB2 := hide (HB.out.trans (hb.mono HB.out.size))
  clear ho hb
  go_wp2
  go_ret
  exact ⟨_, rfl, HO.out, HB2.out⟩
theorem implRowSums_yes (v : Value) (R C : Nat) (f : Nat → Nat → Int) (w : World) (hin : InMat w v (mkM R C f)) (hI : Img R C f) :
    Calls Tryz.prog 46 #[v] w (IntsRes (rowsL R C f) w) := by
  have HI := hide hin; have H := hide hI
  rw [← lineRow_rows]
  clear hin hI
  go_enter Tryz.func46, Tryz.ntmps46
  go_wp2_with fail
  refine (alongRows_any _).mono ?_
  rintro e w1 ⟨rfl, hb⟩
  have HB := hide hb
  clear hb
  go_wp2_with fail
  refine (implLineSums_yes v R C R f 1 0 _ (inMat_below HI.out HB.out) H.out (by decide) (countL_rows R C).symm (by have := H.out.r2; omega)).mono ?_
  rintro e w2 ⟨u, rfl, ho, hb⟩
  have HO := hide (own_base ho HB.out.size); have HB2 := hide (HB.out.trans (hb.mono HB.out.size))
  clear ho hb
  go_wp2
  go_ret
  exact ⟨_, rfl, HO.out, HB2.out⟩

end Go.Proofs.YtjnnoabaepmcnaaGreat
/-
  l02Empty of the model.
-/
namespace Go.Proofs.YtjnnoabaepmcnaaGreat
open Go.RowKit

set_option maxHeartbeats 1000000 in
theorem l02Empty_any (R C : Nat) (w : World) (hR : R ≤ 5) (hC : C ≤ 5) :
    Calls Tryz.prog 58 #[.int .i64 R, .int .i64 C] w (MatRes (mkM R C zeroM) w) := by
  have HZ : Hid (ints (rowF C (zeroM 0)) = List.replicate C (.int .i64 0)) := hide (by
    apply List.ext_getElem
    · simp [ints, rowF]
    · intro i h1 h2; simp [ints, rowF, zeroM])
  go_enter Tryz.func58, Tryz.ntmps58
  go_wp2
  go_loopw [5, 6] (fun o i w' => ∃ (y : Nat) (v : Value), y ≤ R ∧ i = .int .i64 y ∧ v = o ∧ OwnMat w' w.heap.size w'.heap.size v (mkM y C zeroM) ∧ Below w.heap.size w w') (fun _ i _ => R - (intOf i).toNat)
  case atStart => exact ⟨0, _, by omega, rfl, rfl, ⟨[], World.ownsRow_made (base := w.heap.size) w #[] 0 (Nat.le_refl _) (Nat.zero_le _) rfl, (fun k e => by simp [Value.ownBlock] at e; subst e; simp), (fun i h => absurd h (Nat.not_lt_zero _)), fun i j _ h => absurd h (Nat.not_lt_zero _)⟩, (Below.refl _ _).alloc (Nat.le_refl _) _⟩
  case round =>
    obtain ⟨y, v, hy, rfl, rfl, hown, hb⟩ := hrel
    have HO := hide hown; have HB := hide hb
    clear hown hb
    by_cases hlt : y < R
    · have hyI : (y : Int) < R := by omega
      have hsz := HB.out.size
      go_wp2_with (first | (at_make; refine wpList_new wr.heap.size C (.int .i64 0) rfl _ _ rfl Tryz.underlying23 Tryz.infoInt rfl (by decide) rfl rfl (by omega) (Nat.le_refl _) ?_; intro w1 hown1 hb1 hg1; have O1 := hide (ownMat_below HO.out hb1); have HU : Hid (w1.ownsRow wr.heap.size 3 1 (.slice (some ⟨wr.heap.size, 0, none⟩) C C) (rowF C (zeroM y)).length (ints (rowF C (zeroM y)))) := hide (by rw [rowF_len, show ints (rowF C (zeroM y)) = List.replicate C (.int .i64 0) from HZ.out]; exact hown1); have HB1 := hide (HB.out.trans (hb1.mono hsz)); have hs1 := hb1.size; clear hown1 hb1 hg1; obtain ⟨vs, hv, hvh, hvr, hva⟩ := O1.out; have hvl := mkM_len y C zeroM; rw [hvl] at hv; have HV := hide hv; have HVR := hide hvr; have HVA := hide hva; clear hv hvh hvr hva hvl) | (at_builtin; refine wpList_push HV.out (.slice (some ⟨wr.heap.size, 0, none⟩) C C) (.slice none 0 0) rfl _ _ rfl Tryz.underlying22 Tryz.infoInts rfl (by decide) rfl rfl rfl (by omega) (by omega) ?_; intro v' w6 hown1 hb1 hg1))
      go_roundw
      case rel =>
        have hs6 := hb1.size
        have hp := ownMat_push (r := rowF C (zeroM y)) (hi' := w6.heap.size) HVR.out HVA.out (by rw [mkM_len]; exact HV.out) (by rw [rowF_len]; have := HU.out; rw [rowF_len] at this; exact this) hsz (by omega) (by omega) hg1 (by rw [mkM_len]; exact hown1) (fun k e => (hown1.lt k e).2)
        rw [← mkM_succ] at hp
        exact ⟨y + 1, _, by omega, by go_num, rfl, hp, HB1.out.trans (hb1.mono (by omega))⟩
      case measure => simp [intOf]; omega
    · obtain rfl : y = R := by omega
      go_wp2
      go_ret
      exact ⟨_, rfl, HO.out, HB.out⟩

end Go.Proofs.YtjnnoabaepmcnaaGreat
