/-
  Texts of this claim, one behind the other: LawsQ, MatR, Bits, Need, Pen, OwnIm, Ov.
-/
import Derived.Test.YtcliiefedmiokaaGreatPackC
import Derived.Test.YtcliiefedmiokaaGreatPackA
/-
  The exact law on SumsOk, walked.
-/
namespace Go.Proofs.YtcliiefedmiokaaGreat
open Go.RowKit
set_option linter.unusedVariables false

/-- What 'open_ints' hands over. -/
theorem inRow_of {w : World} {x : Addr} {l c : Nat} {zs : List Int} (hl : l ≤ c) (hm : c ≤ maxLen) (hz : zs.length = c) (hcell : ∀ i, i < zs.length → w.cell? (x.add i) = some (.int .i64 (zs.getD i 0))) : InRow w (.slice (some x) l c) (zs.take l) := by
  have hlen : (zs.take l).length = l := by rw [List.length_take]; omega
  refine ⟨some x, c, by rw [hlen], by omega, ?_⟩
  by_cases h0 : l = 0
  · exact .inl (by omega)
  · refine .inr ?_
    obtain ⟨g, o, spot⟩ := x
    have hc := hcell 0 (by omega)
    have hspot : spot = none := by simpa [Addr.add] using World.cell?_spot hc
    subst hspot
    refine ⟨g, o, rfl, by have := World.block_lt_of_cell? w _ hc; simpa [Addr.add] using this, fun i hi => ?_⟩
    have := hcell i (by omega)
    rw [addr_add] at this
    rw [this, List.getElem_take, List.getD_eq_getElem?_getD, List.getElem?_eq_getElem (by omega)]; rfl

end Go.Proofs.YtcliiefedmiokaaGreat
/-
  What a call answers: a list of lists of its own, alone or with a bool.
-/
namespace Go.Proofs.YtcliiefedmiokaaGreat
open Go.RowKit

/-- The call answers a list of lists of its own. -/
def MatRes (rows : List (List Int)) (w : World) (e : Ending) (w' : World) : Prop := ∃ v, e = .returned v ∧ OwnMat w' w.heap.size w'.heap.size v rows ∧ Below w.heap.size w w'
theorem matRes_nil {w w' : World} (h : Below w.heap.size w w') : MatRes [] w (.returned (.slice none 0 0)) w' := ⟨_, rfl, ownMat_nil _ _ _, h⟩
/-- The call answers a list of lists of its own, and a bool. -/
def MatRes2 (rows : List (List Int)) (b : Bool) (w : World) (e : Ending) (w' : World) : Prop := ∃ v, e = .returned (.tuple #[v, .bool b]) ∧ OwnMat w' w.heap.size w'.heap.size v rows ∧ Below w.heap.size w w'
theorem matRes2_nil {w w' : World} (h : Below w.heap.size w w') : MatRes2 [] false w (.returned (.tuple #[.slice none 0 0, .bool false])) w' := ⟨_, rfl, ownMat_nil _ _ _, h⟩
theorem ownMat_some {w : World} {lo hi : Nat} {v : Value} {m : List (List Int)} (h : OwnMat w lo hi v m) (h0 : 0 < m.length) : ∃ g c, v = .slice (some ⟨g, 0, none⟩) m.length c := by
  obtain ⟨vs, hv, -⟩ := h
  obtain ⟨g, c, rfl, -⟩ := own_some hv h0
  exact ⟨g, c, rfl⟩
end Go.Proofs.YtcliiefedmiokaaGreat
/-
  Rows as bits: OnesCount, rowOfBits, rowsWith.
-/
namespace Go.Proofs.YtcliiefedmiokaaGreat
open Go.RowKit

/-- How many bits of n are set, of the lowest five. -/
def pop5 (n : Nat) : Nat := n % 2 + n / 2 % 2 + n / 4 % 2 + n / 8 % 2 + n / 16 % 2
set_option maxHeartbeats 4000000 in
theorem ones64_any (n : Nat) (w : World) (h : n < 32) : Calls Tryz.prog 145 #[.int .u64 n] w fun e w' => e = .returned (.int .i64 (pop5 n : Nat)) ∧ w = w' := by
  go_enter Tryz.func145, Tryz.ntmps145
  go_wp2
  go_ret
  refine ⟨?_, rfl⟩
  simp only [Array.getD_eq_getD_getElem?]
  refine ret_int ?_
  revert n
  decide +kernel
theorem ones_any (n : Nat) (w : World) (h : n < 32) : Calls Tryz.prog 131 #[.int .u64 n] w fun e w' => e = .returned (.int .i64 (pop5 n : Nat)) ∧ w = w' := by
  go_enter Tryz.func131, Tryz.ntmps131
  go_wp2_with ((with_reducible refine (ones64_any n _ h).mono ?_); rintro e w' ⟨rfl, rfl⟩)
  go_ret
  exact ⟨rfl, rfl⟩
/-- The bits of n, the highest of C first. -/
def bitsRow (C n : Nat) : List Int := tabL C fun x => ((n / 2 ^ (C - 1 - x) % 2 : Nat) : Int)
theorem bit_at : ∀ n : Nat, n < 32 → ∀ e : Nat, e < 5 → wrap64 (bits BinOp.and IntKind.u64 ((n : Int) / 2 ^ e) 1) = ((n / 2 ^ e % 2 : Nat) : Int) := by decide +kernel
set_option maxHeartbeats 400000 in
theorem rowOfBits_any (n C : Nat) (w : World) (hC : 1 ≤ C ∧ C ≤ 5) (h : n < 32) :
    Calls Tryz.prog 132 #[.int .u64 n, .int .i64 C] w (IntsRes (bitsRow C n) w) := by
  obtain ⟨hC1, hC2⟩ := hC
  have HBI := hide fun (e : Nat) (he : e < 5) => bit_at n h e he
  go_enter Tryz.func132, Tryz.ntmps132
  go_wp2_with (at_make; refine wpList_new w.heap.size C (.int .i64 0) rfl _ _ rfl Tryz.underlying30 Tryz.infoInt rfl (by decide) rfl rfl (by omega) (Nat.le_refl _) ?_; intro w1 hown1 hb1 hg1)
  have HO := hide hown1; have HB := hide hb1
  clear hown1 hb1 hg1
  go_wp2
  go_loopw [11] (fun i w' => ∃ k : Nat, k ≤ C ∧ i = .int .i64 k ∧ w'.ownsRow w.heap.size 3 1 (.slice (some ⟨w.heap.size, 0, none⟩) C C) C (ints (tabL C fun x => if x < k then ((n / 2 ^ (C - 1 - x) % 2 : Nat) : Int) else 0)) ∧ Below w.heap.size w w') (fun i _ => C - (intOf i).toNat)
  case atStart => exact ⟨0, Nat.zero_le _, rfl, by rw [tabL_zero] at HO; exact HO.out, HB.out⟩
  case round =>
    clear HO HB
    obtain ⟨k, hk, rfl, hown, hb⟩ := hrel
    have HO := hide hown; have HB := hide hb
    clear hown hb
    by_cases hlt : k < C
    · have hc1 := cell_held HO.out hlt
      rw [tabL_held hlt, if_neg (Nat.lt_irrefl k)] at hc1
      have hf := HO.out.frozenAt k
      have HS := HO.out.stored k (.int .i64 (n / 2 ^ (C - 1 - k) % 2 : Nat))
      rw [ints_set, tabL_set] at HS
      rw [show (tabL C fun t => if t = k then ((n / 2 ^ (C - 1 - k) % 2 : Nat) : Int) else if t < k then ((n / 2 ^ (C - 1 - t) % 2 : Nat) : Int) else 0) = tabL C fun x => if x < k + 1 then ((n / 2 ^ (C - 1 - x) % 2 : Nat) : Int) else 0 from tabL_congr fun i _ => by
        by_cases e : i = k
        · subst e; rw [if_pos rfl, if_pos (Nat.lt_succ_self _)]
        · rw [if_neg e]
          by_cases e' : i < k
          · rw [if_pos e', if_pos (by omega)]
          · rw [if_neg e', if_neg (by omega)], ← HBI.out (C - 1 - k) (by omega)] at HS
      have HS := hide HS
      go_wp2
      go_roundw
      case rel => exact ⟨k + 1, by omega, by go_num, HS.out.1, HB.out.setCell (Nat.le_refl _) _⟩
      case measure => simp [intOf]; omega
    · obtain rfl : k = C := by omega
      have e3 : (tabL k fun x => if x < k then ((n / 2 ^ (k - 1 - x) % 2 : Nat) : Int) else 0) = bitsRow k n := tabL_congr fun i hi => by rw [if_pos hi]
      rw [e3] at HO
      go_wp2
      go_ret
      exact ⟨_, rfl, by rw [bitsRow, tabL_len]; exact HO.out, HB.out⟩
/-- The rows among the first N numbers. -/
def bitRows (C : Nat) (s : Int) (N : Nat) : List (List Int) := ((List.range N).filter fun n => decide (((pop5 n : Nat) : Int) = s)).map (bitsRow C)
theorem bitRows_succ (C : Nat) (s : Int) (N : Nat) : bitRows C s (N + 1) = bitRows C s N ++ if ((pop5 N : Nat) : Int) = s then [bitsRow C N] else [] := by
  unfold bitRows
  rw [List.range_succ, List.filter_append, List.map_append]
  congr 1
  by_cases h : ((pop5 N : Nat) : Int) = s
  · rw [if_pos h]; simp [h]
  · rw [if_neg h]; simp [h]
theorem bitRows_len (C : Nat) (s : Int) (N : Nat) : (bitRows C s N).length ≤ N := by
  unfold bitRows
  rw [List.length_map]
  exact Nat.le_trans (List.length_filter_le _ _) (by simp)
theorem bitRows_yes {C : Nat} {s : Int} {N : Nat} (h : ((pop5 N : Nat) : Int) = s) : bitRows C s (N + 1) = bitRows C s N ++ [bitsRow C N] := by rw [bitRows_succ, if_pos h]
theorem bitRows_no {C : Nat} {s : Int} {N : Nat} (h : ¬ ((pop5 N : Nat) : Int) = s) : bitRows C s (N + 1) = bitRows C s N := by rw [bitRows_succ, if_neg h, List.append_nil]
theorem bitsRow_len (C n : Nat) : (bitsRow C n).length = C := tabL_len _ _
set_option maxHeartbeats 1000000 in
theorem rowsWith_any (s : Int) (C : Nat) (w : World) (hC : 1 ≤ C ∧ C ≤ 5) :
    Calls Tryz.prog 105 #[.int .i64 s, .int .i64 C] w (MatRes (bitRows C s (2 ^ C)) w) := by
  obtain ⟨hC1, hC2⟩ := hC
  obtain ⟨N, hN⟩ : ∃ N, N = 2 ^ C := ⟨_, rfl⟩
  have hN5 : N ≤ 32 := by rw [hN]; exact Nat.le_trans (Nat.pow_le_pow_right (by decide) hC2) (by decide)
  have hW : IntKind.u64.wrap (2 ^ C) = (N : Int) := by
    rw [show ((2 : Int) ^ C) = ((2 ^ C : Nat) : Int) by simp, ← hN]
    have : ∀ n : Nat, n ≤ 32 → IntKind.u64.wrap (n : Int) = n := by decide
    exact this N hN5
  rw [← hN]
  have HN := hide hN; have HN5 := hide hN5
  have HC := hide (And.intro hC1 hC2)
  clear hN
  go_enter Tryz.func105, Tryz.ntmps105
  go_wp2
  go_loopw [5, 9] (fun u i w' => ∃ (k : Nat) (v : Value), k ≤ N ∧ i = .int .u64 k ∧ v = u ∧ OwnMat w' w.heap.size w'.heap.size v (bitRows C s k) ∧ Below w.heap.size w w') (fun _ i _ => N - (intOf i).toNat)
  case atStart => exact ⟨0, _, Nat.zero_le _, rfl, rfl, ownMat_nil _ _ _, Below.refl _ _⟩
  case round =>
    obtain ⟨k, v, hk, rfl, rfl, hown, hb⟩ := hrel
    have HO := hide hown; have HB := hide hb
    clear hown hb hW
    by_cases hlt : k < N
    · have hk32 : k < 32 := by have := HN5.out; omega
      have hsz := HB.out.size
      have HY := hide (fun h => bitRows_yes (C := C) (s := s) (N := k) h)
      have HZ := hide (fun h => bitRows_no (C := C) (s := s) (N := k) h)
      have HONE := hide (ones_any k wr hk32)
      obtain ⟨q, hq⟩ : ∃ q, q = ((pop5 k : Nat) : Int) := ⟨_, rfl⟩
      rw [← hq] at HY HZ HONE
      clear hq
      by_cases hqs : q = s
      · subst hqs
        have HY2 := hide (HY.out rfl)
        have HLEN := hide (bitRows_len C q k)
        clear HY HZ
        have hlen := HLEN.out
        obtain ⟨vs, hv, hvh, hvr, hva⟩ := HO.out
        have HV := hide hv; have HVR := hide hvr; have HVA := hide hva
        clear hv hvh hvr hva
        go_wp2_with (first | (go_at_call 131; refine HONE.out.mono ?_; rintro e w4 ⟨rfl, rfl⟩) | (go_at_call 132; refine (rowOfBits_any k C _ HC.out hk32).mono ?_; rintro e w5 ⟨ur, rfl, hur, hb5⟩; rw [bitsRow_len] at hur; obtain ⟨ra, rc, rfl⟩ := own_slice hur; have HU := hide hur; have HB5 := hide hb5; have hs5 := hb5.size; have HV5 := hide (own_below HV.out hb5); clear hur hb5) | (at_builtin; refine wpList_push HV5.out (.slice ra C rc) (.slice none 0 0) rfl _ _ rfl Tryz.underlying22 Tryz.infoInts rfl (by decide) rfl rfl rfl (by omega) (by omega) ?_; intro v' w6 hown1 hb1 hg1))
        go_roundw
        case rel =>
          have hs6 := hb1.size
          have hp := ownMat_push (w := w5) (r := bitsRow C k) (hi := wr.heap.size) (hi' := w6.heap.size) (fun i h => ⟨own_below (HVR.out i h).1 HB5.out, (HVR.out i h).2⟩) HVA.out HV5.out (by rw [bitsRow_len]; exact HU.out) hsz (by omega) (by omega) hg1 hown1 (fun k e => (hown1.lt k e).2)
          rw [← HY2.out] at hp
          exact ⟨k + 1, _, by omega, by go_num, rfl, hp, (HB.out.trans (HB5.out.mono hsz)).trans (hb1.mono (by have := HB5.out.size; omega))⟩
        case measure => simp [intOf]; omega
      · have HZ2 := hide (HZ.out hqs)
        clear HY HZ
        go_wp2_with (go_at_call 131; refine HONE.out.mono ?_; rintro e w4 ⟨rfl, rfl⟩)
        go_roundw
        case rel => exact ⟨k + 1, _, by omega, by go_num, rfl, by rw [HZ2.out]; exact HO.out, HB.out⟩
        case measure => simp [intOf]; omega
    · obtain rfl : k = N := by omega
      go_wp2
      go_ret
      exact ⟨_, rfl, HO.out, HB.out⟩
end Go.Proofs.YtcliiefedmiokaaGreat
/-
  A region that draws its order, whose operations may write: each must keep only what an operation that may still come up reads.
-/
namespace Go.Proofs.YtcliiefedmiokaaGreat
open Go.RowKit

/-- Operation i waits, at some remove, for operation k. -/
def anc (l : List Oper) : Nat → Nat → Nat → Bool
  | 0, _, _ => false
  | f + 1, i, k => match l[i]? with
    | none => false
    | some o => (List.range i).any fun e => depT o e && (e == k || anc l f e k)
/-- Operation o reads what j has left. -/
def datT (o : Oper) (j : Nat) : Bool := o.after.any fun e => e.on == j && Region.binds .any e && (match e.ground with | .data => true | .guard => true | _ => false)
def dataOnly (o : Oper) : Bool := o.after.toList.all fun e => !Region.binds .any e || datT o e.on
/-- Some operation that may come up behind i reads what j has left. -/
def needB (l : List Oper) (i j : Nat) : Bool :=
  j != i && (List.range l.length).any fun k => k != i && !anc l l.length i k && (match l[k]? with | none => false | some o => datT o j)
theorem needB_of {l : List Oper} {i j k : Nat} {o : Oper} (hij : j ≠ i) (hk : l[k]? = some o) (hi : k ≠ i) (ha : anc l l.length i k = false) (hd : datT o j = true) : needB l i j = true := by
  unfold needB
  rw [Bool.and_eq_true, List.any_eq_true]
  refine ⟨by simpa using hij, k, List.mem_range.2 (List.getElem?_eq_some_iff.1 hk).1, ?_⟩
  simp [hk, hi, ha, hd]
/-- All that needB can say of i. -/
def needL (l : List Oper) (i : Nat) : List Nat :=
  ((List.range l.length).flatMap fun k => if k != i && !anc l l.length i k then (match l[k]? with | none => [] | some o => o.after.toList.map (·.on)) else []).filter fun j => j != i && needB l i j
theorem needL_of {l : List Oper} {i j : Nat} (h : needB l i j = true) : j ∈ needL l i := by
  have h0 := h
  unfold needB at h
  rw [Bool.and_eq_true, List.any_eq_true] at h
  obtain ⟨hj, k, hk, h⟩ := h
  unfold needL
  rw [List.mem_filter]
  refine ⟨List.mem_flatMap.2 ⟨k, hk, ?_⟩, by rw [hj, h0]; rfl⟩
  rw [Bool.and_eq_true] at h
  obtain ⟨h1, h2⟩ := h
  rw [if_pos h1]
  cases hl : l[k]? with
  | none => rw [hl] at h2; cases h2
  | some o =>
    rw [hl] at h2
    have h2' : datT o j = true := h2
    unfold datT at h2'
    rw [Array.any_eq_true] at h2'
    obtain ⟨n, hn, h3⟩ := h2'
    simp only [Bool.and_eq_true, beq_iff_eq] at h3
    exact List.mem_map.2 ⟨_, Array.getElem_mem_toList hn, h3.1.1⟩

section
variable {P : Program} {ops : Array Oper} {Q : Exit → Act → World → Prop}

theorem depT_iff {o : Oper} {j : Nat} : depT o j = true ↔ ∃ e ∈ o.after, e.on = j ∧ Region.binds .any e = true := by
  unfold depT
  rw [Array.any_eq_true]
  constructor
  · rintro ⟨n, hn, h⟩
    simp only [Bool.and_eq_true, beq_iff_eq] at h
    exact ⟨_, Array.getElem_mem hn, h⟩
  · rintro ⟨e, he, h1, h2⟩
    obtain ⟨n, hn, rfl⟩ := Array.getElem_of_mem he
    exact ⟨n, hn, by simp [h1, h2]⟩
theorem datT_dep {o : Oper} {j : Nat} (h : datT o j = true) : depT o j = true := by
  unfold datT at h
  rw [Array.any_eq_true] at h
  obtain ⟨n, hn, h⟩ := h
  simp only [Bool.and_eq_true, beq_iff_eq] at h
  exact depT_iff.2 ⟨_, Array.getElem_mem hn, h.1.1, h.1.2⟩
theorem dat_of {o : Oper} (h : dataOnly o = true) {j : Nat} (hd : depT o j = true) : datT o j = true := by
  obtain ⟨e, he, rfl, hb⟩ := depT_iff.1 hd
  unfold dataOnly at h
  rw [List.all_eq_true] at h
  have := h e (by simpa using he)
  rw [hb] at this
  simpa using this
theorem anc_listed {listed : Array Bool} (hc : Closed .any ops listed) : ∀ (f i k : Nat) (o : Oper), ops[i]? = some o → (∀ e ∈ o.after, Region.binds .any e = true → listed.getD e.on false = true) → anc ops.toList f i k = true → listed.getD k false = true
  | 0, _, _, _, _, _, h => by cases h
  | f + 1, i, k, o, hi, hall, h => by
    unfold anc at h
    have hi' : ops.toList[i]? = some o := by simpa using hi
    rw [hi'] at h
    simp only [List.any_eq_true, Bool.and_eq_true, Bool.or_eq_true, beq_iff_eq] at h
    obtain ⟨e, -, hd, h⟩ := h
    obtain ⟨x, hx, rfl, hb⟩ := depT_iff.1 hd
    have hl := hall x hx hb
    rcases h with h | h
    · rw [← h]; exact hl
    · cases hx' : ops[x.on]? with
      | none =>
        exfalso
        cases f with
        | zero => cases h
        | succ f =>
          unfold anc at h
          have : ops.toList[x.on]? = none := by simpa using hx'
          rw [this] at h; cases h
      | some ox => exact anc_listed hc f x.on k ox hx' (fun e he hbe => hc x.on ox hx' hl e he hbe) h

/-- The frame and the world while the region runs: what is listed and still read holds in its slot. -/
structure MidN (ops : Array Oper) (a0 : Act) (S : World → Prop) (F : Nat → Value → World → Prop) (listed : Array Bool) (a : Act) (w : World) : Prop where
  size : listed.size = ops.size
  tmps : a.tmps.size = a0.tmps.size
  defers : a.defers = a0.defers
  out : ∀ t, outside ops t = true → a.tmps.getD t undef = a0.tmps.getD t undef
  world : S w
  held : ∀ (i : Nat) (o : Oper) (d : Tmp), ops[i]? = some o → o.dst = some d → listed.getD i false = true → (∃ k ok, ops[k]? = some ok ∧ listed.getD k true = false ∧ datT ok i = true) → F i (a.tmps.getD d undef) w

def EachN (P : Program) (ops : Array Oper) (Q : Exit → Act → World → Prop) (a0 : Act) (S : World → Prop) (F : Nat → Value → World → Prop) (i : Nat) (o : Oper) : Prop :=
  ∀ (a : Act) (w : World), a.tmps.size = a0.tmps.size → a.defers = a0.defers → (∀ t, outside ops t = true → a.tmps.getD t undef = a0.tmps.getD t undef) → S w →
    (∀ (j : Nat) (oe : Oper) (d : Tmp), datT o j = true → ops[j]? = some oe → oe.dst = some d → F j (a.tmps.getD d undef) w) →
    ∀ K : Act → World → Prop, (∀ v w', S w' → (∀ j, needB ops.toList i j = true → ∀ u, F j u w → F j u w') → F i v w' → K (a.put o.dst v) w') → wpOp P ops Q i K a w

theorem wpAny_need {a0 : Act} {S : World → Prop} {F : Nat → Value → World → Prop} {last : Oper} (ho : orderly .any a0.tmps.size 0 [] ops.toList = true) (ht : tails .any ops.toList = true) (hl : ops[ops.size - 1]? = some last)
    (hop : ∀ (i : Nat) (o : Oper), ops[i]? = some o → i < ops.size - 1 → EachN P ops Q a0 S F i o)
    (hlast : ∀ (a : Act) (w : World), a.tmps.size = a0.tmps.size → a.defers = a0.defers → (∀ t, outside ops t = true → a.tmps.getD t undef = a0.tmps.getD t undef) → S w →
      (∀ (i : Nat) (o : Oper) (d : Tmp), ops[i]? = some o → i < ops.size - 1 → o.dst = some d → datT last i = true → F i (a.tmps.getD d undef) w) → ∀ K : Act → World → Prop, (∀ a' w', Q .normal a' w' → K a' w') → wpOp P ops Q (ops.size - 1) K a w) :
    ∀ (fuel : Nat) (listed : Array Bool) (a : Act) (w : World), MidN ops a0 S F listed a w → Closed .any ops listed → listed.getD (ops.size - 1) true = false → unl listed ops.size ≤ fuel → wpAny P .any ops Q fuel listed a w := by
  have hlt0 : ops.size - 1 < ops.size := (Array.getElem?_eq_some_iff.1 hl).1
  have hon : ∀ (i : Nat) (o : Oper), ops[i]? = some o → ∀ e ∈ o.after, Region.binds .any e = true → e.on < i := fun i o hi e he hbd => by
    have := orderly_on ops.toList 0 [] ho i o (by simpa using hi) e he hbd; omega
  have hdst : ∀ (i : Nat) (o : Oper) (d : Tmp), ops[i]? = some o → o.dst = some d → d < a0.tmps.size := fun i o d hi hd => (orderly_dst ops.toList 0 [] ho i o d (by simpa using hi) hd).1
  have hone : ∀ (i : Nat) (o : Oper) (d : Tmp), ops[i]? = some o → o.dst = some d → ∀ (j : Nat) (o' : Oper), ops[j]? = some o' → i ≠ j → o'.dst ≠ some d := fun i o d hi hd j o' hj hij e => by
    rcases Nat.lt_or_gt_of_ne hij with h | h
    · exact (orderly_dst ops.toList 0 [] ho i o d (by simpa using hi) hd).2.2 j o' (by simpa using hj) h e
    · exact (orderly_dst ops.toList 0 [] ho j o' d (by simpa using hj) e).2.2 i o (by simpa using hi) h hd
  intro fuel
  induction fuel with
  | zero =>
    intro listed a w hm hcl hul hf
    exfalso
    have := unl_set listed _ hul ops.size
    rw [if_pos hlt0] at this
    omega
  | succ fuel ih =>
    intro listed a w hm hcl hul hf
    refine ⟨fun hr => ?_, fun i hi => ?_⟩
    · exfalso
      have h1 := ready_none hm.size hon hr _ hlt0
      have hlt : ops.size - 1 < listed.size := by have := hm.size; omega
      simp [hlt] at hul h1
      rw [h1] at hul; cases hul
    obtain ⟨hul2, o, ho', hall⟩ := mem_ready.1 hi
    have hlt : i < ops.size := (Array.getElem?_eq_some_iff.1 ho').1
    by_cases e : i = ops.size - 1
    · subst e
      rw [hl] at ho'
      obtain rfl := Option.some.inj ho'
      have hab := fun j hj => all_before ht hcl hl hall _ j (Nat.le_refl _) hj
      refine hlast a w hm.tmps hm.defers hm.out hm.world (fun j oj d hj hjl hd hdep => hm.held j oj d hj hd (hab j hjl) ⟨_, _, hl, hul2, hdep⟩) _ fun a' w' hq => ?_
      have hrd : Region.ready .any ops (listed.setIfInBounds (ops.size - 1) true) = [] := by
        rw [List.eq_nil_iff_forall_not_mem]
        intro j hj
        obtain ⟨hl', o', ho'', -⟩ := mem_ready.1 hj
        have hj' : j < ops.size := (Array.getElem?_eq_some_iff.1 ho'').1
        have hls : ops.size - 1 < listed.size := by have := hm.size; omega
        by_cases ej : ops.size - 1 = j
        · subst ej; simp [hls] at hl'
        · rw [getD_set_ne true ej] at hl'
          have h1 := hab j (by omega)
          have hjs : j < listed.size := by have := hm.size; omega
          simp [hjs] at hl' h1
          rw [h1] at hl'; cases hl'
      cases fuel with
      | zero => exact ⟨hrd, hq⟩
      | succ fuel => exact ⟨fun _ => hq, fun j hj => by rw [hrd] at hj; cases hj⟩
    · refine hop i o ho' (by omega) a w hm.tmps hm.defers hm.out hm.world (fun j oe d hdj hoe hd => by
        obtain ⟨e, he, rfl, hb⟩ := depT_iff.1 (datT_dep hdj)
        exact hm.held e.on oe d hoe hd (hall e he hb) ⟨i, o, ho', hul2, hdj⟩) _ fun v w' hS hst hF => ?_
      have hls : listed.size = ops.size := hm.size
      refine ih _ _ _ ⟨by simp [hm.size], ?_, ?_, fun t ht => ?_, hS, fun j oj d hj hd hlj hcons => ?_⟩ (fun k ok hk hlk e' he' hb' => ?_) ?_ ?_
      · cases o.dst <;> simp [Act.put, hm.tmps]
      · cases o.dst <;> simp [Act.put, hm.defers]
      · rw [← hm.out t ht]
        cases hd : o.dst with
        | none => rfl
        | some d =>
          have hne : d ≠ t := by
            intro e; subst e
            unfold outside at ht
            rw [Array.all_eq_true_iff_forall_mem] at ht
            have := ht o (Array.mem_of_getElem? ho')
            rw [hd] at this; simp at this
          simp [Act.put, Array.getElem?_setIfInBounds_ne hne]
      · by_cases e : i = j
        · subst e
          rw [ho'] at hj
          obtain rfl := Option.some.inj hj
          have hdl : d < a.tmps.size := by rw [hm.tmps]; exact hdst i o d ho' hd
          have : (a.put o.dst v).tmps.getD d undef = v := by rw [hd]; simp [Act.put, hdl]
          rw [this]; exact hF
        · have h1 : listed.getD j false = true := by rw [getD_set_ne false e] at hlj; exact hlj
          obtain ⟨k, ok, hk, huk, hdk⟩ := hcons
          have hki : i ≠ k := by
            intro e'; subst e'
            simp [show i < listed.size by omega] at huk
          have huk' : listed.getD k true = false := by rw [getD_set_ne true hki] at huk; exact huk
          have hanc : anc ops.toList ops.toList.length i k = false := by
            cases h : anc ops.toList ops.toList.length i k with
            | false => rfl
            | true =>
              have := anc_listed hcl _ i k o ho' hall h
              have hks : k < listed.size := by rw [hls]; exact (Array.getElem?_eq_some_iff.1 hk).1
              simp [hks] at this huk'
              rw [this] at huk'; cases huk'
          have h2 := hm.held j oj d hj hd h1 ⟨k, ok, hk, huk', hdk⟩
          have h3 : (a.put o.dst v).tmps.getD d undef = a.tmps.getD d undef := by
            cases hd' : o.dst with
            | none => rfl
            | some d' =>
              have hne : d' ≠ d := fun e' => hone j oj d hj hd i o ho' (Ne.symm e) (by rw [hd', e'])
              simp [Act.put, Array.getElem?_setIfInBounds_ne hne]
          rw [h3]; exact hst j (needB_of (Ne.symm e) (by simpa using hk) (Ne.symm hki) hanc hdk) _ h2
      · by_cases ek : i = k
        · subst ek
          rw [ho'] at hk
          obtain rfl := Option.some.inj hk
          have h1 := hall e' he' hb'
          have h2 : i ≠ e'.on := by have := hon i o ho' e' he' hb'; omega
          rw [getD_set_ne false h2]; exact h1
        · rw [getD_set_ne false ek] at hlk
          have h1 := hcl k ok hk hlk e' he' hb'
          by_cases e2 : i = e'.on
          · rw [← e2]; simp [show i < listed.size by omega]
          · rw [getD_set_ne false e2]; exact h1
      · rw [getD_set_ne true e]; exact hul
      · have := unl_set listed i hul2 ops.size
        rw [if_pos hlt] at this; omega

/-- What is asked of one operation: it keeps what may still be read. -/
def Obn (P : Program) (Q : Exit → Act → World → Prop) (l : List Oper) (base : List (Tmp × Value)) (dsts : List (Option Tmp)) (S : World → Prop) (fs : List FactP) (i : Nat) (o : Oper) : Prop :=
  ∀ (a : Act) (w : World), S w → (∀ t v, base.lookup t = some v → a.tmps.getD t undef = v) →
    (∀ j d, dsts[j]? = some (some d) → datT o j = true → factP fs j (a.tmps.getD d undef) w) →
    ∀ K : Act → World → Prop, (∀ v w', S w' → (∀ j, needB l i j = true → ∀ u, factP fs j u w → factP fs j u w') → factP fs i v w' → K (a.put o.dst v) w') →
      (o.guard = none ∨ ∃ j d, o.guard = some (j, true) ∧ dsts[j]? = some (some d) ∧ a.tmps.getD d undef = .bool true) ∧ o.wp P a w K Q
theorem obn_of {l : List Oper} {base : List (Tmp × Value)} {dsts : List (Option Tmp)} {S : World → Prop} {fs : List FactP} {i : Nat} {o : Oper} (hd : dataOnly o = true) (h : Obt P Q base dsts S fs i o) : Obn P Q l base dsts S fs i o :=
  fun a w h1 h2 h3 K hK => h a w h1 h2 (fun j d hj hdj => h3 j d hj (dat_of hd hdj)) K fun v w' g1 g2 g3 => hK v w' g1 (fun j _ u => g2 j u) g3

theorem wp_region_need {id : Nat} {a : Act} {w : World} {S : World → Prop} (fs : List FactP) (base : List (Tmp × Value)) (dsts : List (Option Tmp)) (last : Oper) (k : Nat)
    (hm : P.follows .mixedOrders = true) (hk : ops.size = k + 1) (hlk : ops[k]? = some last) (ho : orderly .any a.tmps.size 0 [] ops.toList = true) (ht : tails .any ops.toList = true) (hd : ops.toList.map (·.dst) = dsts)
    (hbo : base.all (fun p => outside ops p.1) = true) (hb : ∀ t v, base.lookup t = some v → a.tmps.getD t undef = v)
    (hS : S w.drew) (hob : AllOps (Obn P Q ops.toList base dsts S fs) 0 ops.toList.dropLast) (hgl : last.guard = none)
    (hlast : ∀ (a' : Act) (w' : World), a'.tmps.size = a.tmps.size → a'.defers = a.defers → (∀ t, outside ops t = true → a'.tmps.getD t undef = a.tmps.getD t undef) → S w' →
      (∀ j d, dsts[j]? = some (some d) → j < k → datT last j = true → factP fs j (a'.tmps.getD d undef) w') → ∀ K : Act → World → Prop, (∀ v w2, Q .normal (a'.put last.dst v) w2 → K (a'.put last.dst v) w2) → last.wp P a' w' K Q) :
    (Code.region id ops true).wp P Q a w := by
  have hl : ops[ops.size - 1]? = some last := by rw [hk]; exact hlk
  have hdst' : ∀ (j : Nat) (d : Tmp), dsts[j]? = some (some d) → ∃ o, ops[j]? = some o ∧ o.dst = some d := fun j d h => by
    rw [← hd, List.getElem?_map] at h
    cases hj : ops.toList[j]? with
    | none => rw [hj] at h; simp at h
    | some o =>
      rw [hj] at h
      exact ⟨o, by simpa using hj, by simpa using h⟩
  have hmem : ∀ (t : Tmp) (v : Value) (l : List (Tmp × Value)), l.lookup t = some v → ∃ p ∈ l, p.1 = t := fun t v l => by
    induction l with
    | nil => intro h; simp at h
    | cons x r ih =>
      intro h
      rw [List.lookup_cons] at h
      by_cases e : t == x.1
      · exact ⟨x, List.mem_cons_self, (by simpa using e : t = x.1).symm⟩
      · have e' : (t == x.1) = false := by simpa using e
        rw [e'] at h
        obtain ⟨p, hp, hpt⟩ := ih h
        exact ⟨p, List.mem_cons_of_mem _ hp, hpt⟩
  have hstart : ∀ k, k ≤ ops.size → unl (Array.replicate ops.size false) k = k := by
    intro k
    induction k with
    | zero => intro _; rfl
    | succ k ih =>
      intro hk
      rw [unl, ih (by omega)]
      have : (Array.replicate ops.size false).getD k true = false := by simp [show k < ops.size by omega]
      rw [this]; rfl
  refine wp_region_any hm (wpAny_need (F := fun i u w => factP fs i u w) ho ht hl (fun i o hi hil a' w' hts hds hout hSw hdep K hK => ?_) (fun a' w' h1 h2 h3 h4 h5 K hK => ?_) _ _ _ _ ⟨by simp, rfl, rfl, fun _ _ => rfl, hS, fun i o d hi _ hl _ => ?_⟩ (fun k o hk hlk => ?_) ?_ ?_)
  · have hbase : ∀ t v, base.lookup t = some v → a'.tmps.getD t undef = v := fun t v h => by
      obtain ⟨p, hp, rfl⟩ := hmem t v base h
      rw [List.all_eq_true] at hbo
      rw [hout p.1 (hbo p hp)]; exact hb p.1 v h
    have hdep' : ∀ j d, dsts[j]? = some (some d) → datT o j = true → factP fs j (a'.tmps.getD d undef) w' := fun j d h he => by
      obtain ⟨oe, hoe, hde⟩ := hdst' j d h
      exact hdep j oe d he hoe hde
    have hip : ops.toList.dropLast[i]? = some o := by
      have : ops.toList[i]? = some o := by simpa using hi
      rw [List.getElem?_dropLast, if_pos (by simpa using hil)]; exact this
    have hobi := allOps_at _ 0 hob i o hip
    rw [Nat.zero_add] at hobi
    obtain ⟨hg, hwp⟩ := hobi a' w' hSw hbase hdep' K hK
    have hwant : Region.wanted o (yielded ops a'.tmps) = true := by
      rcases hg with hg | ⟨j, d, hg, hj, hv⟩
      · simp [Region.wanted, hg]
      · obtain ⟨oj, hoj, hdj⟩ := hdst' j d hj
        have h1 : a'.tmps[d]? = some (.bool true) := by
          cases h : a'.tmps[d]? with
          | none => simp [h] at hv; cases hv
          | some u => simp [h] at hv; rw [hv]
        simp [Region.wanted, hg, yielded, hoj, hdj, h1]
    unfold wpOp
    simp only [hi, hwant, if_true]
    exact .inl hwp
  · have hw := hlast a' w' h1 h2 h3 h4 (fun j d h hj hdep => by
      obtain ⟨o, ho', hd'⟩ := hdst' j d h
      exact h5 j o d ho' (by omega) hd' hdep) K fun v w2 hq => hK _ _ hq
    unfold wpOp
    have hwant : Region.wanted last (yielded ops a'.tmps) = true := by simp [Region.wanted, hgl]
    simp only [hl, hwant, if_true]
    exact .inl hw
  · exfalso
    have hlt : i < ops.size := (Array.getElem?_eq_some_iff.1 hi).1
    simp [hlt] at hl
  · exfalso
    have hlt : k < ops.size := (Array.getElem?_eq_some_iff.1 hk).1
    simp [hlt] at hlk
  · have hlt : ops.size - 1 < ops.size := by omega
    simp [hlt]
  · rw [hstart _ (Nat.le_refl _)]; exact Nat.le_refl _
end
end Go.Proofs.YtcliiefedmiokaaGreat
/-
  A region that draws its order, one of whose operations (pen) waits for all others but the last: behind it the world need not be what it was.
-/
namespace Go.Proofs.YtcliiefedmiokaaGreat
open Go.RowKit

section
variable {P : Program} {ops : Array Oper} {Q : Exit → Act → World → Prop}

/-- Some operation that may come up behind i reads what j has left, and j does not wait for i. -/
def needP (l : List Oper) (i j : Nat) : Bool := needB l i j && !anc l l.length j i
def needPL (l : List Oper) (i : Nat) : List Nat := (needL l i).filter fun j => !anc l l.length j i
theorem needPL_of {l : List Oper} {i j : Nat} (h : needP l i j = true) : j ∈ needPL l i := by
  unfold needP at h
  rw [Bool.and_eq_true] at h
  exact List.mem_filter.2 ⟨needL_of h.1, h.2⟩
theorem needP_of {l : List Oper} {i j : Nat} (h : needB l i j = true) (ha : anc l l.length j i = false) : needP l i j = true := by
  unfold needP; rw [h, ha]; rfl

/-- The frame and the world while the region runs: what is listed and still read holds in its slot. -/
structure MidP (ops : Array Oper) (pen : Nat) (a0 : Act) (S : World → Prop) (F : Nat → Value → World → Prop) (listed : Array Bool) (a : Act) (w : World) : Prop where
  size : listed.size = ops.size
  tmps : a.tmps.size = a0.tmps.size
  defers : a.defers = a0.defers
  out : ∀ t, outside ops.pop t = true → a.tmps.getD t undef = a0.tmps.getD t undef
  world : listed.getD pen false = false → S w
  held : ∀ (i : Nat) (o : Oper) (d : Tmp), ops[i]? = some o → o.dst = some d → listed.getD i false = true → (∃ k ok, ops[k]? = some ok ∧ listed.getD k true = false ∧ datT ok i = true) → F i (a.tmps.getD d undef) w

def EachP (P : Program) (ops : Array Oper) (pen : Nat) (Q : Exit → Act → World → Prop) (a0 : Act) (S : World → Prop) (F : Nat → Value → World → Prop) (i : Nat) (o : Oper) : Prop :=
  ∀ (a : Act) (w : World), a.tmps.size = a0.tmps.size → a.defers = a0.defers → (∀ t, outside ops.pop t = true → a.tmps.getD t undef = a0.tmps.getD t undef) → S w →
    (∀ (j : Nat) (oe : Oper) (d : Tmp), datT o j = true → ops[j]? = some oe → oe.dst = some d → F j (a.tmps.getD d undef) w) →
    ∀ K : Act → World → Prop, (∀ v w', (i ≠ pen → S w') → (∀ j, needP ops.toList i j = true → ∀ u, F j u w → F j u w') → F i v w' → K (a.put o.dst v) w') → wpOp P ops Q i K a w

theorem wpAny_pen {pen : Nat} {a0 : Act} {S : World → Prop} {F : Nat → Value → World → Prop} {last : Oper} (hpen : ∀ i, i < ops.size - 1 → i ≠ pen → anc ops.toList ops.toList.length pen i = true) (hpl : pen < ops.size) (ho : orderly .any a0.tmps.size 0 [] ops.toList = true) (ht : tails .any ops.toList = true) (hl : ops[ops.size - 1]? = some last)
    (hop : ∀ (i : Nat) (o : Oper), ops[i]? = some o → i < ops.size - 1 → EachP P ops pen Q a0 S F i o)
    (hlast : ∀ (a : Act) (w : World), a.tmps.size = a0.tmps.size → a.defers = a0.defers → (∀ t, outside ops.pop t = true → a.tmps.getD t undef = a0.tmps.getD t undef) →
      (∀ (i : Nat) (o : Oper) (d : Tmp), ops[i]? = some o → i < ops.size - 1 → o.dst = some d → datT last i = true → F i (a.tmps.getD d undef) w) → ∀ K : Act → World → Prop, (∀ a' w', Q .normal a' w' → K a' w') → wpOp P ops Q (ops.size - 1) K a w) :
    ∀ (fuel : Nat) (listed : Array Bool) (a : Act) (w : World), MidP ops pen a0 S F listed a w → Closed .any ops listed → listed.getD (ops.size - 1) true = false → unl listed ops.size ≤ fuel → wpAny P .any ops Q fuel listed a w := by
  have hlt0 : ops.size - 1 < ops.size := (Array.getElem?_eq_some_iff.1 hl).1
  have hon : ∀ (i : Nat) (o : Oper), ops[i]? = some o → ∀ e ∈ o.after, Region.binds .any e = true → e.on < i := fun i o hi e he hbd => by
    have := orderly_on ops.toList 0 [] ho i o (by simpa using hi) e he hbd; omega
  have hdst : ∀ (i : Nat) (o : Oper) (d : Tmp), ops[i]? = some o → o.dst = some d → d < a0.tmps.size := fun i o d hi hd => (orderly_dst ops.toList 0 [] ho i o d (by simpa using hi) hd).1
  have hone : ∀ (i : Nat) (o : Oper) (d : Tmp), ops[i]? = some o → o.dst = some d → ∀ (j : Nat) (o' : Oper), ops[j]? = some o' → i ≠ j → o'.dst ≠ some d := fun i o d hi hd j o' hj hij e => by
    rcases Nat.lt_or_gt_of_ne hij with h | h
    · exact (orderly_dst ops.toList 0 [] ho i o d (by simpa using hi) hd).2.2 j o' (by simpa using hj) h e
    · exact (orderly_dst ops.toList 0 [] ho j o' d (by simpa using hj) e).2.2 i o (by simpa using hi) h hd
  intro fuel
  induction fuel with
  | zero =>
    intro listed a w hm hcl hul hf
    exfalso
    have := unl_set listed _ hul ops.size
    rw [if_pos hlt0] at this
    omega
  | succ fuel ih =>
    intro listed a w hm hcl hul hf
    refine ⟨fun hr => ?_, fun i hi => ?_⟩
    · exfalso
      have h1 := ready_none hm.size hon hr _ hlt0
      have hlt : ops.size - 1 < listed.size := by have := hm.size; omega
      simp [hlt] at hul h1
      rw [h1] at hul; cases hul
    obtain ⟨hul2, o, ho', hall⟩ := mem_ready.1 hi
    have hlt : i < ops.size := (Array.getElem?_eq_some_iff.1 ho').1
    by_cases e : i = ops.size - 1
    · subst e
      rw [hl] at ho'
      obtain rfl := Option.some.inj ho'
      have hab := fun j hj => all_before ht hcl hl hall _ j (Nat.le_refl _) hj
      refine hlast a w hm.tmps hm.defers hm.out (fun j oj d hj hjl hd hdep => hm.held j oj d hj hd (hab j hjl) ⟨_, _, hl, hul2, hdep⟩) _ fun a' w' hq => ?_
      have hrd : Region.ready .any ops (listed.setIfInBounds (ops.size - 1) true) = [] := by
        rw [List.eq_nil_iff_forall_not_mem]
        intro j hj
        obtain ⟨hl', o', ho'', -⟩ := mem_ready.1 hj
        have hj' : j < ops.size := (Array.getElem?_eq_some_iff.1 ho'').1
        have hls : ops.size - 1 < listed.size := by have := hm.size; omega
        by_cases ej : ops.size - 1 = j
        · subst ej; simp [hls] at hl'
        · rw [getD_set_ne true ej] at hl'
          have h1 := hab j (by omega)
          have hjs : j < listed.size := by have := hm.size; omega
          simp [hjs] at hl' h1
          rw [h1] at hl'; cases hl'
      cases fuel with
      | zero => exact ⟨hrd, hq⟩
      | succ fuel => exact ⟨fun _ => hq, fun j hj => by rw [hrd] at hj; cases hj⟩
    · have hpu : listed.getD pen false = false := by
        by_cases ep : i = pen
        · subst ep
          have hps : i < listed.size := by have := hm.size; omega
          simp [hps] at hul2 ⊢; exact hul2
        · cases h : listed.getD pen false with
          | false => rfl
          | true =>
            exfalso
            have h1 := anc_listed hcl _ pen i ops[pen] (Array.getElem?_eq_getElem hpl) (fun e he hbe => hcl pen ops[pen] (Array.getElem?_eq_getElem hpl) h e he hbe) (hpen i (by omega) ep)
            have his : i < listed.size := by have := hm.size; omega
            simp [his] at hul2 h1
            rw [h1] at hul2; cases hul2
      refine hop i o ho' (by omega) a w hm.tmps hm.defers hm.out (hm.world hpu) (fun j oe d hdj hoe hd => by
        obtain ⟨e, he, rfl, hb⟩ := depT_iff.1 (datT_dep hdj)
        exact hm.held e.on oe d hoe hd (hall e he hb) ⟨i, o, ho', hul2, hdj⟩) _ fun v w' hS hst hF => ?_
      have hls : listed.size = ops.size := hm.size
      refine ih _ _ _ ⟨by simp [hm.size], ?_, ?_, fun t ht => ?_, fun hpn => hS (fun ep => by subst ep; simp [show i < listed.size by omega] at hpn), fun j oj d hj hd hlj hcons => ?_⟩ (fun k ok hk hlk e' he' hb' => ?_) ?_ ?_
      · cases o.dst <;> simp [Act.put, hm.tmps]
      · cases o.dst <;> simp [Act.put, hm.defers]
      · rw [← hm.out t ht]
        cases hd : o.dst with
        | none => rfl
        | some d =>
          have hne : d ≠ t := by
            intro e; subst e
            unfold outside at ht
            rw [Array.all_eq_true_iff_forall_mem] at ht
            have := ht o (Array.mem_of_getElem? (i := i) (by rw [Array.getElem?_pop, if_pos (by omega)]; exact ho'))
            rw [hd] at this; simp at this
          simp [Act.put, Array.getElem?_setIfInBounds_ne hne]
      · by_cases e : i = j
        · subst e
          rw [ho'] at hj
          obtain rfl := Option.some.inj hj
          have hdl : d < a.tmps.size := by rw [hm.tmps]; exact hdst i o d ho' hd
          have : (a.put o.dst v).tmps.getD d undef = v := by rw [hd]; simp [Act.put, hdl]
          rw [this]; exact hF
        · have h1 : listed.getD j false = true := by rw [getD_set_ne false e] at hlj; exact hlj
          obtain ⟨k, ok, hk, huk, hdk⟩ := hcons
          have hki : i ≠ k := by
            intro e'; subst e'
            simp [show i < listed.size by omega] at huk
          have huk' : listed.getD k true = false := by rw [getD_set_ne true hki] at huk; exact huk
          have hanc : anc ops.toList ops.toList.length i k = false := by
            cases h : anc ops.toList ops.toList.length i k with
            | false => rfl
            | true =>
              have := anc_listed hcl _ i k o ho' hall h
              have hks : k < listed.size := by rw [hls]; exact (Array.getElem?_eq_some_iff.1 hk).1
              simp [hks] at this huk'
              rw [this] at huk'; cases huk'
          have h2 := hm.held j oj d hj hd h1 ⟨k, ok, hk, huk', hdk⟩
          have h3 : (a.put o.dst v).tmps.getD d undef = a.tmps.getD d undef := by
            cases hd' : o.dst with
            | none => rfl
            | some d' =>
              have hne : d' ≠ d := fun e' => hone j oj d hj hd i o ho' (Ne.symm e) (by rw [hd', e'])
              simp [Act.put, Array.getElem?_setIfInBounds_ne hne]
          have hji : anc ops.toList ops.toList.length j i = false := by
            cases h : anc ops.toList ops.toList.length j i with
            | false => rfl
            | true =>
              exfalso
              have := anc_listed hcl _ j i oj hj (fun e he hbe => hcl j oj hj h1 e he hbe) h
              have his : i < listed.size := by omega
              simp [his] at hul2 this
              rw [this] at hul2; cases hul2
          rw [h3]; exact hst j (needP_of (needB_of (Ne.symm e) (by simpa using hk) (Ne.symm hki) hanc hdk) hji) _ h2
      · by_cases ek : i = k
        · subst ek
          rw [ho'] at hk
          obtain rfl := Option.some.inj hk
          have h1 := hall e' he' hb'
          have h2 : i ≠ e'.on := by have := hon i o ho' e' he' hb'; omega
          rw [getD_set_ne false h2]; exact h1
        · rw [getD_set_ne false ek] at hlk
          have h1 := hcl k ok hk hlk e' he' hb'
          by_cases e2 : i = e'.on
          · rw [← e2]; simp [show i < listed.size by omega]
          · rw [getD_set_ne false e2]; exact h1
      · rw [getD_set_ne true e]; exact hul
      · have := unl_set listed i hul2 ops.size
        rw [if_pos hlt] at this; omega

/-- What is asked of one operation: it keeps what may still be read; operation pen need not keep the world. -/
def Obp (P : Program) (Q : Exit → Act → World → Prop) (l : List Oper) (pen : Nat) (base : List (Tmp × Value)) (dsts : List (Option Tmp)) (S : World → Prop) (fs : List FactP) (i : Nat) (o : Oper) : Prop :=
  ∀ (a : Act) (w : World), S w → (∀ t v, base.lookup t = some v → a.tmps.getD t undef = v) →
    (∀ j d, dsts[j]? = some (some d) → datT o j = true → factP fs j (a.tmps.getD d undef) w) →
    ∀ K : Act → World → Prop, (∀ v w', (i ≠ pen → S w') → (∀ j, needP l i j = true → ∀ u, factP fs j u w → factP fs j u w') → factP fs i v w' → K (a.put o.dst v) w') →
      (o.guard = none ∨ ∃ j d, o.guard = some (j, true) ∧ dsts[j]? = some (some d) ∧ a.tmps.getD d undef = .bool true) ∧ o.wp P a w K Q
theorem obp_of {l : List Oper} {pen : Nat} {base : List (Tmp × Value)} {dsts : List (Option Tmp)} {S : World → Prop} {fs : List FactP} {i : Nat} {o : Oper} (h : Obn P Q l base dsts S fs i o) : Obp P Q l pen base dsts S fs i o :=
  fun a w h1 h2 h3 K hK => h a w h1 h2 h3 K fun v w' g1 g2 g3 => hK v w' (fun _ => g1) (fun j hj => g2 j (by unfold needP at hj; rw [Bool.and_eq_true] at hj; exact hj.1)) g3

theorem wp_region_pen {id : Nat} {a : Act} {w : World} {S : World → Prop} (pen : Nat) (fs : List FactP) (base : List (Tmp × Value)) (dsts : List (Option Tmp)) (last : Oper) (k : Nat)
    (hpb : ((List.range (ops.size - 1)).all fun i => i == pen || anc ops.toList ops.toList.length pen i) = true) (hpl : pen < ops.size) (hm : P.follows .mixedOrders = true) (hk : ops.size = k + 1) (hlk : ops[k]? = some last) (ho : orderly .any a.tmps.size 0 [] ops.toList = true) (ht : tails .any ops.toList = true) (hd : ops.toList.map (·.dst) = dsts)
    (hbo : base.all (fun p => outside ops.pop p.1) = true) (hb : ∀ t v, base.lookup t = some v → a.tmps.getD t undef = v)
    (hS : S w.drew) (hob : AllOps (Obp P Q ops.toList pen base dsts S fs) 0 ops.toList.dropLast) (hgl : last.guard = none)
    (hlast : ∀ (a' : Act) (w' : World), a'.tmps.size = a.tmps.size → a'.defers = a.defers → (∀ t, outside ops.pop t = true → a'.tmps.getD t undef = a.tmps.getD t undef) →
      (∀ j d, dsts[j]? = some (some d) → j < k → datT last j = true → factP fs j (a'.tmps.getD d undef) w') → ∀ K : Act → World → Prop, (∀ v w2, Q .normal (a'.put last.dst v) w2 → K (a'.put last.dst v) w2) → last.wp P a' w' K Q) :
    (Code.region id ops true).wp P Q a w := by
  have hl : ops[ops.size - 1]? = some last := by rw [hk]; exact hlk
  have hdst' : ∀ (j : Nat) (d : Tmp), dsts[j]? = some (some d) → ∃ o, ops[j]? = some o ∧ o.dst = some d := fun j d h => by
    rw [← hd, List.getElem?_map] at h
    cases hj : ops.toList[j]? with
    | none => rw [hj] at h; simp at h
    | some o =>
      rw [hj] at h
      exact ⟨o, by simpa using hj, by simpa using h⟩
  have hmem : ∀ (t : Tmp) (v : Value) (l : List (Tmp × Value)), l.lookup t = some v → ∃ p ∈ l, p.1 = t := fun t v l => by
    induction l with
    | nil => intro h; simp at h
    | cons x r ih =>
      intro h
      rw [List.lookup_cons] at h
      by_cases e : t == x.1
      · exact ⟨x, List.mem_cons_self, (by simpa using e : t = x.1).symm⟩
      · have e' : (t == x.1) = false := by simpa using e
        rw [e'] at h
        obtain ⟨p, hp, hpt⟩ := ih h
        exact ⟨p, List.mem_cons_of_mem _ hp, hpt⟩
  have hstart : ∀ k, k ≤ ops.size → unl (Array.replicate ops.size false) k = k := by
    intro k
    induction k with
    | zero => intro _; rfl
    | succ k ih =>
      intro hk
      rw [unl, ih (by omega)]
      have : (Array.replicate ops.size false).getD k true = false := by simp [show k < ops.size by omega]
      rw [this]; rfl
  refine wp_region_any hm (wpAny_pen (pen := pen) (F := fun i u w => factP fs i u w) (fun i hi hne => by
    rw [List.all_eq_true] at hpb
    have := hpb i (List.mem_range.2 hi)
    rw [Bool.or_eq_true] at this
    exact this.resolve_left (by simpa using hne)) hpl ho ht hl (fun i o hi hil a' w' hts hds hout hSw hdep K hK => ?_) (fun a' w' h1 h2 h3 h5 K hK => ?_) _ _ _ _ ⟨by simp, rfl, rfl, fun _ _ => rfl, fun _ => hS, fun i o d hi _ hl _ => ?_⟩ (fun k o hk hlk => ?_) ?_ ?_)
  · have hbase : ∀ t v, base.lookup t = some v → a'.tmps.getD t undef = v := fun t v h => by
      obtain ⟨p, hp, rfl⟩ := hmem t v base h
      rw [List.all_eq_true] at hbo
      rw [hout p.1 (hbo p hp)]; exact hb p.1 v h
    have hdep' : ∀ j d, dsts[j]? = some (some d) → datT o j = true → factP fs j (a'.tmps.getD d undef) w' := fun j d h he => by
      obtain ⟨oe, hoe, hde⟩ := hdst' j d h
      exact hdep j oe d he hoe hde
    have hip : ops.toList.dropLast[i]? = some o := by
      have : ops.toList[i]? = some o := by simpa using hi
      rw [List.getElem?_dropLast, if_pos (by simpa using hil)]; exact this
    have hobi := allOps_at _ 0 hob i o hip
    rw [Nat.zero_add] at hobi
    obtain ⟨hg, hwp⟩ := hobi a' w' hSw hbase hdep' K hK
    have hwant : Region.wanted o (yielded ops a'.tmps) = true := by
      rcases hg with hg | ⟨j, d, hg, hj, hv⟩
      · simp [Region.wanted, hg]
      · obtain ⟨oj, hoj, hdj⟩ := hdst' j d hj
        have h1 : a'.tmps[d]? = some (.bool true) := by
          cases h : a'.tmps[d]? with
          | none => simp [h] at hv; cases hv
          | some u => simp [h] at hv; rw [hv]
        simp [Region.wanted, hg, yielded, hoj, hdj, h1]
    unfold wpOp
    simp only [hi, hwant, if_true]
    exact .inl hwp
  · have hw := hlast a' w' h1 h2 h3 (fun j d h hj hdep => by
      obtain ⟨o, ho', hd'⟩ := hdst' j d h
      exact h5 j o d ho' (by omega) hd' hdep) K fun v w2 hq => hK _ _ hq
    unfold wpOp
    have hwant : Region.wanted last (yielded ops a'.tmps) = true := by simp [Region.wanted, hgl]
    simp only [hl, hwant, if_true]
    exact .inl hw
  · exfalso
    have hlt : i < ops.size := (Array.getElem?_eq_some_iff.1 hi).1
    simp [hlt] at hl
  · exfalso
    have hlt : k < ops.size := (Array.getElem?_eq_some_iff.1 hk).1
    simp [hlt] at hlk
  · have hlt : ops.size - 1 < ops.size := by omega
    simp [hlt]
  · rw [hstart _ (Nat.le_refl _)]; exact Nat.le_refl _
end
end Go.Proofs.YtcliiefedmiokaaGreat
/-
  A list of lists of rows that the call owns.
-/
namespace Go.Proofs.YtcliiefedmiokaaGreat
open Go.RowKit

theorem Tryz.infoMat : (Tryz.prog.info? 22).map (fun i => (i.zero, i.size, i.bytes)) = some (some (.slice none 0 0), 1, 24) := by kernel_rfl
/-- Rows of the call's own, from lo on. -/
def OwnM2 (w : World) (lo : Nat) (v : Value) (m : List (List Int)) : Prop := ∃ hi, hi ≤ w.heap.size ∧ OwnMat w lo hi v m
theorem ownM2_below {w w' : World} {lo : Nat} {v : Value} {m : List (List Int)} (h : OwnM2 w lo v m) (hb : Below w.heap.size w w') : OwnM2 w' lo v m := by
  obtain ⟨hi, h1, h2⟩ := h
  exact ⟨hi, Nat.le_trans h1 hb.size, ownMat_below h2 hb⟩
theorem ownM2_kept {w w' : World} {lo B e n : Nat} {v u : Value} {m : List (List Int)} {xs : List Value} (h : OwnM2 w lo v m) (hu : w.ownsRow B e 1 u n xs) (hg : w.grownBy w' u.ownBlock) (h1 : 30 ≠ e) (h2 : 3 ≠ e) : OwnM2 w' lo v m := by
  obtain ⟨hi, h0, vs, g1, g2, g3, g4⟩ := h
  exact ⟨hi, Nat.le_trans h0 hg.size, vs, g1.kept hg (own_types g1 hu h1), g2, fun i hi => ⟨(g3 i hi).1.kept hg (own_types (g3 i hi).1 hu h2), (g3 i hi).2⟩, g4⟩
/-- A list of lists of rows that the call owns. -/
def OwnImgs (w : World) (lo : Nat) (v : Value) (ms : List (List (List Int))) : Prop :=
  ∃ us : List Value, w.ownsRow lo 22 1 v ms.length us ∧ ∀ i, (h : i < ms.length) → OwnM2 w lo (us.getD i undef) ms[i]
theorem ownImgs_below {w w' : World} {lo : Nat} {v : Value} {ms : List (List (List Int))} (h : OwnImgs w lo v ms) (hb : Below w.heap.size w w') : OwnImgs w' lo v ms := by
  obtain ⟨us, h1, h2⟩ := h
  exact ⟨us, own_below h1 hb, fun i hi => ownM2_below (h2 i hi) hb⟩
theorem ownImgs_push {w w' : World} {lo : Nat} {v v' u : Value} {us : List Value} {ms : List (List (List Int))} {m : List (List Int)} (hv : w.ownsRow lo 22 1 v ms.length us) (hr : ∀ i, (h : i < ms.length) → OwnM2 w lo (us.getD i undef) ms[i]) (hu : OwnM2 w lo u m)
    (hg : w.grownBy w' v.ownBlock) (ho : w'.ownsRow lo 22 1 v' (ms.length + 1) (us ++ [u])) : OwnImgs w' lo v' (ms ++ [m]) := by
  have hl : us.length = ms.length := by have := hv.1; omega
  refine ⟨us ++ [u], by simpa using ho, fun i h => ?_⟩
  by_cases e : i < ms.length
  · have e1 : (us ++ [u]).getD i undef = us.getD i undef := by simp [List.getD_eq_getElem?_getD, List.getElem?_append_left (show i < us.length by omega)]
    rw [e1, List.getElem_append_left e]
    exact ownM2_kept (hr i e) hv hg (by decide) (by decide)
  · obtain rfl : i = ms.length := by simp at h; omega
    have e1 : (us ++ [u]).getD ms.length undef = u := by rw [← hl]; simp [List.getD_eq_getElem?_getD]
    rw [e1, show (ms ++ [m])[ms.length] = m by simp]
    exact ownM2_kept hu hv hg (by decide) (by decide)
end Go.Proofs.YtcliiefedmiokaaGreat
/-
  The frame behind a region that draws its order: the slots that the region writes, over the frame from before.
-/
namespace Go.Proofs.YtcliiefedmiokaaGreat
open Go.RowKit

def ov (ks : List (Nat × Value)) : Nat → List Value → List Value
  | _, [] => []
  | i, x :: r => (match ks.lookup i with | some v => v | none => x) :: ov ks (i + 1) r
def KV (a' : Act) : List (Nat × Value) → Prop
  | [] => True
  | p :: r => a'.tmps.getD p.1 undef = p.2 ∧ KV a' r
theorem kv_lookup {a' : Act} : ∀ {ks : List (Nat × Value)}, KV a' ks → ∀ {i : Nat} {v : Value}, ks.lookup i = some v → a'.tmps.getD i undef = v
  | [], _, i, v, h => by simp at h
  | p :: r, hk, i, v, h => by
    rw [List.lookup_cons] at h
    by_cases e : i == p.1
    · rw [e] at h
      have e' := eq_of_beq e
      simp only [Option.some.injEq] at h
      subst h; subst e'
      exact hk.1
    · have e' : (i == p.1) = false := by simpa using e
      rw [e'] at h
      exact kv_lookup hk.2 h
theorem frameAt_ov {ops : Array Oper} {a a' : Act} {ks : List (Nat × Value)} (h3 : ∀ t, outside ops t = true → a'.tmps.getD t undef = a.tmps.getD t undef) (hv : KV a' ks) : ∀ (xs : List Value) (i : Nat),
    (∀ j, j < xs.length → outside ops (i + j) = true ∨ (ks.lookup (i + j)).isSome = true) → (∀ j, (h : j < xs.length) → a.tmps.getD (i + j) undef = xs[j]) → frameAt a' i (ov ks i xs)
  | [], _, _, _ => trivial
  | x :: r, i, ho, hx => by
    refine ⟨?_, ?_⟩
    · cases hl : ks.lookup i with
      | some v => exact kv_lookup hv hl
      | none =>
        rcases ho 0 (by simp) with h | h
        · rw [Nat.add_zero] at h
          rw [h3 i h]
          exact hx 0 (by simp)
        · rw [Nat.add_zero, hl] at h; cases h
    · refine frameAt_ov h3 hv r (i + 1) (fun j hj => ?_) (fun j hj => ?_)
      · have := ho (j + 1) (by simpa using hj)
        rwa [show i + (j + 1) = i + 1 + j by omega] at this
      · have := hx (j + 1) (by simpa using hj)
        rw [show i + (j + 1) = i + 1 + j by omega] at this
        simpa using this
theorem ov_len (ks : List (Nat × Value)) : ∀ (xs : List Value) (i : Nat), (ov ks i xs).length = xs.length
  | [], _ => rfl
  | _ :: r, i => by simp [ov, ov_len ks r]
theorem frame_ov {ops : Array Oper} {a a' : Act} {xs : List Value} {ds : List Deferred} (ha : a = ⟨xs.toArray, ds⟩) (h1 : a'.tmps.size = a.tmps.size) (h2 : a'.defers = a.defers) (h3 : ∀ t, outside ops t = true → a'.tmps.getD t undef = a.tmps.getD t undef)
    (ks : List (Nat × Value)) (hk : ((List.range xs.length).all fun t => outside ops t || (ks.map (·.1)).contains t) = true) (hv : KV a' ks) : a' = ⟨(ov ks 0 xs).toArray, ds⟩ := by
  subst ha
  refine frame_eq _ (by rw [h1, ov_len]; simp) h2 (frameAt_ov h3 hv xs 0 (fun j hj => ?_) fun j hj => ?_)
  · rw [Nat.zero_add]
    have := List.all_eq_true.1 hk j (List.mem_range.2 hj)
    rw [Bool.or_eq_true] at this
    rcases this with h | h
    · exact .inl h
    · right
      clear hk h1 h2 h3 hv
      induction ks with
      | nil => simp at h
      | cons p r ih =>
        rw [List.lookup_cons]
        by_cases e : j == p.1
        · rw [e]; rfl
        · have e' : (j == p.1) = false := by simpa using e
          rw [e']
          refine ih ?_
          simp only [List.map_cons, List.contains_cons, e', Bool.false_or] at h
          exact h
  · simp [hj]
theorem obt_assign {P : Program} {Q : Exit → Act → World → Prop} {base : List (Tmp × Value)} {dsts : List (Option Tmp)} {S : World → Prop} {fs : List FactP} {i : Nat} {o : Oper} {x : Operand} (v : Value) (ho : o.op = .assign x) (hf : factP fs i = isV v) (hg : o.guard = none) (hx : SrcT base dsts fs o x v) : Obt P Q base dsts S fs i o :=
  obt_run v hf hg fun a w _ hs => by unfold execOp; rw [ho]; simp only [hs x v hx]; rfl
/-- An operation whose one operand is what a forerunner has left, told by a fact. -/
theorem obt_from {P : Program} {Q : Exit → Act → World → Prop} {base : List (Tmp × Value)} {dsts : List (Option Tmp)} {S : World → Prop} {fs : List FactP} {i : Nat} {o : Oper} {d : Tmp} (j : Nat) (hg : o.guard = none) (h1 : dsts[j]? = some (some d)) (h2 : depT o j = true)
    (hr : ∀ (ρ : Operand → Value) (w : World) (u : Value), S w → ρ (.tmp d) = u → factP fs j u w → ∃ v, (execOp ρ o).run P w = .ok (.value v) w ∧ factP fs i v w) : Obt P Q base dsts S fs i o :=
  fun a w hS _ hD K hK => by
    obtain ⟨v, hv1, hv2⟩ := hr a.eval w _ hS rfl (hD j d h1 h2)
    exact ⟨.inl hg, run_value v hv1 (hK _ _ hS (fun _ _ h => h) hv2)⟩
theorem exec_moveV {P : Program} {ρ : Operand → Value} {o : Oper} {w : World} {x : Operand} {u : Value} (ho : o.op = .move x) (hx : ρ x = u) : (execOp ρ o).run P w = .ok (.value u) w := by
  unfold execOp; rw [ho]; simp only [hx]; rfl
theorem exec_assignV {P : Program} {ρ : Operand → Value} {o : Oper} {w : World} {x : Operand} {u : Value} (ho : o.op = .assign x) (hx : ρ x = u) : (execOp ρ o).run P w = .ok (.value u) w := by
  unfold execOp; rw [ho]; simp only [hx]; rfl
theorem exec_extract0 {P : Program} {ρ : Operand → Value} {o : Oper} {w : World} {x : Operand} {u v : Value} (ho : o.op = .extract x 0) (hx : ρ x = .tuple #[u, v]) : (execOp ρ o).run P w = .ok (.value u) w := by
  unfold execOp
  simp only [ho, hx]
  go_simp
theorem exec_extract1 {P : Program} {ρ : Operand → Value} {o : Oper} {w : World} {x : Operand} {u v : Value} (ho : o.op = .extract x 1) (hx : ρ x = .tuple #[u, v]) : (execOp ρ o).run P w = .ok (.value v) w := by
  unfold execOp
  simp only [ho, hx]
  go_simp
end Go.Proofs.YtcliiefedmiokaaGreat
