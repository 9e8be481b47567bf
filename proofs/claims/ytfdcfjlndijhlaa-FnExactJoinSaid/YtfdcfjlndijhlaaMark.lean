/-
  The helpers of the exact laws on lists of strings: markText, eqStringS, markStringS, heldStringS.
-/
import Derived.Test.YtfdcfjlndijhlaaMem
namespace Go.Proofs.Ytfdcfjlndijhlaa
open Go.RowKit
def decGo : Nat → Nat → List UInt8 → List UInt8
  | 0, _, acc => acc
  | f + 1, k, acc => if k = 0 then acc else decGo f (k / 10) (UInt8.ofNat (48 + k % 10) :: acc)
def mkS (k : Nat) : ByteArray := ⟨(if k = 0 then [109, 48] else 109 :: decGo (k + 1) k []).toArray⟩

theorem conv1 (w : World) (n : Int) :
    (convert 39 9 (.slice (some ⟨w.heap.size, 0, none⟩) 1 1)).run Try.prog (w.alloc (.cells #[.int .u8 n] 5)) = .ok (.string ⟨#[UInt8.ofNat n.toNat]⟩) (w.alloc (.cells #[.int .u8 n] 5)) := by
  rw [run_convert_bytes_string _ _ _ _ _ _ _ Try.underlying39 Try.underlying5 Try.underlying9]
  rw [run_bytesToString _ _ _ _ [n]]
  · rfl
  · simp [loadCells, loadCellsFrom, go_sem]

theorem decGo_step (f m : Nat) (out : List UInt8) (h : 0 < m) : decGo (f + 1) m out = decGo f (m / 10) (UInt8.ofNat (48 + m % 10) :: out) := by
  rw [decGo, if_neg (by omega)]
theorem decGo_zero (f : Nat) (out : List UInt8) : decGo f 0 out = out := by cases f <;> simp [decGo]
theorem mk_append (c : UInt8) (out : ByteArray) : (⟨#[c]⟩ ++ out : ByteArray) = ⟨(c :: out.data.toList).toArray⟩ := by
  obtain ⟨⟨l⟩⟩ := out
  rw [show (⟨#[c]⟩ : ByteArray) = ByteArray.mk [c].toArray from rfl, ByteArray.mk_append_mk]; rfl

theorem size_list (l : List UInt8) : (ByteArray.mk l.toArray).size = l.length := rfl
theorem len_list (s : ByteArray) : s.data.toList.length = s.size := by simp

set_option maxHeartbeats 400000 in
theorem markText_any (k : Nat) (w : World) (hk : k ≤ 1000000000) :
    Calls Try.prog 29 #[.int .i64 k] w fun e w' => e = .returned (.string (mkS k)) ∧ Below w.heap.size w w' := by
  go_enter Try.func29, Try.ntmps29
  by_cases h0 : 0 < k
  · go_wp2
    go_loopw [0, 3] (fun n o w' => ∃ (m f : Nat) (out : ByteArray), out.size + m ≤ k ∧ m < f + 1 ∧ decGo f m out.data.toList = decGo (k + 1) k [] ∧ n = .int .i64 m ∧ o = .string out ∧ Below w.heap.size w w') (fun n _ _ => (intOf n).toNat)
    case atStart => exact ⟨k, k + 1, _, (by show 0 + k ≤ k; omega), by omega, rfl, rfl, rfl, Below.refl _ _⟩
    case round =>
      obtain ⟨m, f, out, hm, hf, hd, rfl, rfl, hb⟩ := hrel
      by_cases hlt : 0 < m
      · have hcv := conv1 wr (48 + (m : Int) % 10)
        have HD := hide hd; clear hd
        have hb := hide hb
        go_wp2
        go_roundw
        case rel =>
          obtain ⟨f, rfl⟩ : ∃ f', f = f' + 1 := ⟨f - 1, by omega⟩
          refine ⟨m / 10, f, _, ?_, by omega, ?_, by go_num, rfl, (hb.out.alloc hb.out.size _)⟩
          · rw [mk_append, size_list, List.length_cons, len_list]; omega
          · rw [← HD.out, decGo_step f m _ hlt, mk_append]
            simp only [UInt8.ofNat_add]; rfl
        case measure => simp [intOf]; omega
      · obtain rfl : m = 0 := by omega
        have HD := hide hd; clear hd
        go_wp2
        go_ret
        refine ⟨ret_string ?_, hb⟩
        rw [mk_append, mkS, if_neg (by omega), ← HD.out, decGo_zero]
  · obtain rfl : k = 0 := by omega
    go_wp2
    go_ret
    exact ⟨rfl, Below.refl _ _⟩

set_option maxHeartbeats 400000 in
theorem eqStringS_same (l : List ByteArray) (va vb : Value) (ba bb : Nat) (w : World) (hl : l.length ≤ 2000000)
    (hva : w.ownsRow ba 9 1 va l.length (l.map .string)) (hvb : w.ownsRow bb 9 1 vb l.length (l.map .string)) :
    Calls Try.prog 15 #[va, vb] w fun e w' => e = .returned (.bool true) ∧ Below w.heap.size w w' := by
  by_cases h0 : l.length = 0
  · rw [h0] at hva hvb
    obtain ⟨a, ca, rfl⟩ := own_none hva
    obtain ⟨b, cb, rfl⟩ := own_none hvb
    clear hva hvb h0
    go_enter Try.func15, Try.ntmps15
    go_wp2
    go_loop [5] (fun i => i = .int .i64 0) (fun _ => 0)
    case atStart => rfl
    case round =>
      obtain rfl := hrel
      go_wp2
      go_ret
      exact ⟨rfl, Below.refl _ _⟩
  · obtain ⟨ga, ca, rfl, -, hga, hca, hma, hcella, -⟩ := own_some hva (by omega)
    obtain ⟨gb, cb, rfl, -, hgb, hcb, hmb, hcellb, -⟩ := own_some hvb (by omega)
    have HA := hide hcella; have HB := hide hcellb
    clear hcella hcellb hva hvb h0
    unfold maxLen at hma hmb
    go_enter Try.func15, Try.ntmps15
    go_wp2
    go_loopw [5] (fun i w' => ∃ k : Nat, k ≤ l.length ∧ i = .int .i64 k ∧ Below w.heap.size w w') (fun i _ => l.length - (intOf i).toNat)
    case atStart => exact ⟨0, Nat.zero_le _, rfl, Below.refl _ _⟩
    case round =>
      obtain ⟨k, hk, rfl, hb⟩ := hrel
      by_cases hlt : k < l.length
      · have hxa : wr.cell? ⟨ga, k, none⟩ = some (.string l[k]) := below_cell hb hga (by rw [HA.out k hlt]; simp [hlt])
        have hxb : wr.cell? ⟨gb, k, none⟩ = some (.string l[k]) := below_cell hb hgb (by rw [HB.out k hlt]; simp [hlt])
        have hb := hide hb
        go_wp2
        go_quiet (fail)
        go_wp2
        go_roundw
        case rel => exact ⟨k + 1, by omega, by go_num, below_draws hb.out _⟩
        case measure => simp [intOf]; omega
      · go_wp2
        go_ret
        exact ⟨rfl, hb⟩

/-- What markStringS leaves: n marks from number q on. -/
def marks (n q : Nat) : List Value := (List.range n).map fun i => .string (mkS (q + i))
theorem marks_len (n q : Nat) : (marks n q).length = n := by simp [marks]
theorem marks_at (n q j : Nat) (h : j < n) : (marks n q)[j]? = some (.string (mkS (q + j))) := by simp [marks, h]
theorem marks_set (n q j : Nat) (xs : List Value) (h : xs.length = n) (hj : j < n) : (marks j q ++ xs.drop j).set j (.string (mkS (q + j))) = marks (j + 1) q ++ xs.drop (j + 1) := by
  rw [List.set_append_right _ _ (by rw [marks_len]; omega), marks_len, Nat.sub_self, List.drop_eq_getElem_cons (by omega), List.set_cons_zero]
  rw [show marks (j + 1) q = marks j q ++ [.string (mkS (q + j))] by rw [marks, List.range_succ, List.map_append]; rfl, List.append_assoc]; rfl

set_option maxHeartbeats 400000 in
theorem markStringS_any (n q : Nat) (v : Value) (xs : List Value) (base : Nat) (w : World) (hn : n ≤ 2000000) (hq : q ≤ 2000000)
    (hv : w.ownsRow base 9 1 v n xs) :
    Calls Try.prog 16 #[v, .int .i64 q] w fun e w' => e = .returned (.int .i64 (q + n : Nat)) ∧ w'.ownsRow base 9 1 v n (marks n q) ∧ w.grownBy w' v.ownBlock := by
  by_cases h0 : n = 0
  · subst h0
    have hxs := hv.1
    obtain rfl : xs = [] := List.eq_nil_of_length_eq_zero (by omega)
    obtain ⟨a, c, rfl⟩ := own_none hv
    have HV := hide hv; clear hv hxs
    go_enter Try.func16, Try.ntmps16
    go_wp2
    go_loop [1, 5] (fun k i => i = .int .i64 0 ∧ k = .int .i64 q) (fun _ _ => 0)
    case atStart => exact ⟨rfl, rfl⟩
    case round =>
      obtain ⟨rfl, rfl⟩ := hrel
      go_wp2
      go_ret
      exact ⟨rfl, HV.out, ⟨rfl, rfl, rfl, Nat.le_refl _, fun _ _ _ => rfl⟩⟩
  · have hxs := hv.1
    have HV := hide hv
    obtain ⟨g, c, rfl, hbg, hg, hc, hm, -, -⟩ := own_some hv (by omega)
    clear hv
    unfold maxLen at hm
    go_enter Try.func16, Try.ntmps16
    go_wp2
    go_loopw [1, 5] (fun k i w' => ∃ j : Nat, j ≤ n ∧ i = .int .i64 j ∧ k = .int .i64 (q + j : Nat) ∧ w'.ownsRow base 9 1 (.slice (some ⟨g, 0, none⟩) n c) n (marks j q ++ xs.drop j) ∧ w.grownBy w' (some g)) (fun _ i _ => n - (intOf i).toNat)
    case atStart => exact ⟨0, Nat.zero_le _, rfl, rfl, HV.out, ⟨rfl, rfl, rfl, Nat.le_refl _, fun _ _ _ => rfl⟩⟩
    case round =>
      obtain ⟨j, hj, rfl, rfl, hown, hgr⟩ := hrel
      by_cases hlt : j < n
      · have hO := hide hown; have hG := hide hgr
        clear hown hgr
        have hxs := hide hxs
        go_wp2_with (go_at_call 29; refine (markText_any _ _ (by omega)).mono ?_; rintro e w' ⟨rfl, hb⟩; have hx := cell_held (own_below hO.out hb) hlt; have hf := (own_below hO.out hb).frozenAt j)
        go_roundw
        case rel =>
          have h1 := (own_below hO.out hb).stored j (.string (mkS (q + j)))
          rw [marks_set n q j xs (by have := hxs.out; omega) hlt] at h1
          exact ⟨j + 1, by omega, by go_num, by go_num, h1.1, grown_trans (grown_trans hG.out (grown_of_below hb (some g))) h1.2⟩
        case measure => simp [intOf]; omega
      · obtain rfl : j = n := by omega
        have hO := hide hown; have hG := hide hgr
        clear hown hgr
        have hxs := hide hxs
        go_wp2
        go_ret
        refine ⟨ret_int (by omega), ?_, hG.out⟩
        have := hO.out
        rw [List.drop_of_length_le (by have := hxs.out; omega), List.append_nil] at this
        exact this

set_option maxHeartbeats 400000 in
theorem heldStringS_any (n q : Nat) (v : Value) (base : Nat) (w : World) (hn : n ≤ 2000000) (hq : q ≤ 2000000)
    (hv : w.ownsRow base 9 1 v n (marks n q)) :
    Calls Try.prog 17 #[v, .int .i64 q] w fun e w' => e = .returned (.int .i64 (q + n : Nat)) ∧ Below w.heap.size w w' := by
  by_cases h0 : n = 0
  · subst h0
    obtain ⟨a, c, rfl⟩ := own_none hv
    clear hv
    go_enter Try.func17, Try.ntmps17
    go_wp2
    go_loop [1, 5] (fun k i => i = .int .i64 0 ∧ k = .int .i64 q) (fun _ _ => 0)
    case atStart => exact ⟨rfl, rfl⟩
    case round =>
      obtain ⟨rfl, rfl⟩ := hrel
      go_wp2
      go_ret
      exact ⟨rfl, Below.refl _ _⟩
  · obtain ⟨g, c, rfl, hbg, hg, hc, hm, hcell, -⟩ := own_some hv (by omega)
    have HC := hide hcell
    clear hv hcell
    unfold maxLen at hm
    go_enter Try.func17, Try.ntmps17
    go_wp2
    go_loopw [1, 5] (fun k i w' => ∃ j : Nat, j ≤ n ∧ i = .int .i64 j ∧ k = .int .i64 (q + j : Nat) ∧ Below w.heap.size w w') (fun _ i _ => n - (intOf i).toNat)
    case atStart => exact ⟨0, Nat.zero_le _, rfl, rfl, Below.refl _ _⟩
    case round =>
      obtain ⟨j, hj, rfl, rfl, hb⟩ := hrel
      by_cases hlt : j < n
      · have hx : wr.cell? ⟨g, j, none⟩ = some (.string (mkS (q + j))) := below_cell hb hg (by rw [HC.out j hlt, marks_at n q j hlt])
        have hgr : g < wr.heap.size := Nat.lt_of_lt_of_le hg hb.size
        have hb := hide hb
        go_wp2
        go_region_held3 (fun w' => w'.cell? ⟨g, j, none⟩ = some (.string (mkS (q + j))) ∧ Below wr.heap.size wr w') (first | exact ⟨hx, (Below.refl _ _).drew⟩ | exact ⟨below_cell (w := wr) ((Below.refl _ _).drew.trans hb') hgr hx, (Below.refl _ _).drew.trans hb'⟩) (first | (go_at_call 29; refine (markText_any _ _ (by omega)).mono ?_; rintro e w' ⟨rfl, hb'⟩))
        go_wp2
        obtain ⟨-, hS⟩ := ‹World.cell? _ _ = _ ∧ Below _ _ _›
        go_roundw
        case rel => exact ⟨j + 1, by omega, by go_num, by go_num, hb.out.trans (hS.mono hb.out.size)⟩
        case measure => simp [intOf]; omega
      · obtain rfl : j = n := by omega
        have hb := hide hb
        go_wp2
        go_ret
        exact ⟨ret_int (by omega), hb.out⟩
end Go.Proofs.Ytfdcfjlndijhlaa
