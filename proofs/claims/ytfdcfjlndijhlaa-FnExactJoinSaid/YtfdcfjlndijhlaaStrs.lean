/-
  A list of strings that came in: what the helpers szStringS and toStringS of the laws make of it.
-/
import Derived.Test.YtfdcfjlndijhlaaSplit
import Derived.Test.YtfdcfjlndijhlaaMark
namespace Go.Proofs.Ytfdcfjlndijhlaa
open Go.RowKit

/-- A slice of strings that came in reads as 'ss'. -/
def InStr (w : World) (a : Option Addr) (n : Nat) (ss : List ByteArray) : Prop :=
  ss.length = n ∧ n ≤ maxLen ∧ (∀ s ∈ ss, s.size ≤ maxLen) ∧ (n = 0 ∨ ∃ g o, a = some ⟨g, o, none⟩ ∧ g < w.heap.size ∧ ∀ i, (h : i < ss.length) → w.cell? ⟨g, o + i, none⟩ = some (.string ss[i]))

theorem inStr_nil (w : World) : InStr w none 0 [] := ⟨rfl, Nat.zero_le _, by simp, .inl rfl⟩
theorem inStr_of {w : World} {x : Addr} {l c : Nat} {ss : List ByteArray} (hl : l ≤ c) (hm : c ≤ maxLen) (hz : ss.length = c) (hcell : ∀ i, i < ss.length → w.cell? (x.add i) = some (.string (ss.getD i ByteArray.empty)))
    (hwz : ∀ s ∈ ss, s.size ≤ maxLen) : InStr w (some x) l (ss.take l) := by
  refine ⟨by simp; omega, by omega, fun s hs => hwz s (List.mem_of_mem_take hs), ?_⟩
  by_cases h0 : l = 0
  · exact .inl h0
  · refine .inr ?_
    obtain ⟨g, o, spot⟩ := x
    have hc := hcell 0 (by omega)
    have hspot : spot = none := by simpa [Addr.add] using World.cell?_spot hc
    subst hspot
    refine ⟨g, o, rfl, ?_, fun i hi => ?_⟩
    · have := World.block_lt_of_cell? w _ hc
      simpa [Addr.add] using this
    · simp only [List.length_take] at hi
      have := hcell i (by omega)
      rw [List.getElem_take]
      simpa [addr_add, List.getD_eq_getElem?_getD, List.getElem?_eq_getElem (show i < ss.length by omega)] using this

def total (ss : List ByteArray) : Nat := (ss.map (·.size)).sum
theorem total_snoc (ss : List ByteArray) (k : Nat) (h : k < ss.length) : total (ss.take (k + 1)) = total (ss.take k) + ss[k].size := by
  rw [List.take_succ_eq_append_getElem h]; simp only [total, List.map_append, List.sum_append, List.map_cons, List.map_nil, List.sum_cons, List.sum_nil]; omega
theorem total_all (ss : List ByteArray) (k : Nat) (h : ss.length ≤ k) : total (ss.take k) = total ss := by rw [List.take_of_length_le h]

/-- What szStringS answers: a number that is negative only if the list is longer than 'left'. -/
def SizeRes (w : World) (left n t : Nat) (e : Ending) (w' : World) : Prop := ∃ r : Int, e = .returned (.int .i64 r) ∧ (0 ≤ r → n + t ≤ left) ∧ Below w.heap.size w w'

set_option maxHeartbeats 400000 in
theorem szStringS_any (a : Option Addr) (n c : Nat) (ss : List ByteArray) (left : Nat) (w : World) (hleft : left ≤ 2000000) (hin : InStr w a n ss) :
    Calls Try.prog 20 #[.slice a n c, .int .i64 left] w (SizeRes w left n (total ss)) := by
  obtain ⟨hlen, hmax, hsz, hpl⟩ := hin
  unfold maxLen at hmax
  by_cases hbig : left < n
  · go_enter Try.func20, Try.ntmps20
    clear hpl hsz
    go_wp2
    go_ret
    exact ⟨_, rfl, by omega, Below.refl _ _⟩
  · rcases hpl with h0 | ⟨g, o, rfl, hg, hcell⟩
    · have hss : ss = [] := List.eq_nil_of_length_eq_zero (by omega)
      subst h0; subst hss
      clear hsz hlen
      go_enter Try.func20, Try.ntmps20
      go_wp2
      go_loop [1, 5] (fun r i => i = .int .i64 0 ∧ r = .int .i64 left) (fun _ _ => 0)
      case atStart => exact ⟨rfl, rfl⟩
      case round =>
        obtain ⟨rfl, rfl⟩ := hrel
        go_wp2
        go_ret
        exact ⟨_, rfl, fun _ => by simp [total], Below.refl _ _⟩
    · have HC := hide hcell; have HZ := hide hsz
      clear hcell hsz
      have hlen := hide hlen
      go_enter Try.func20, Try.ntmps20
      go_wp2
      go_loopw [1, 5] (fun r i w' => ∃ k t : Nat, k ≤ n ∧ i = .int .i64 k ∧ r = .int .i64 (left - n - t : Nat) ∧ total (ss.take k) = t ∧ n + t ≤ left ∧ Below w.heap.size w w') (fun _ i _ => n - (intOf i).toNat)
      case atStart => exact ⟨0, 0, Nat.zero_le _, rfl, (by go_num), by simp [total], (by omega), Below.refl _ _⟩
      case round =>
        obtain ⟨k, t, hk, rfl, rfl, ht, hle, hb⟩ := hrel
        have HT := hide ht; have HB := hide hb
        clear ht hb
        by_cases hlt : k < n
        · have hk' : k < ss.length := by rw [hlen.out]; exact hlt
          have hx : wr.cell? ⟨g, o + k, none⟩ = some (.string ss[k]) := below_cell HB.out hg (HC.out k hk')
          have hs1 : ss[k].size ≤ 2 ^ 63 - 1 := HZ.out _ (List.getElem_mem hk')
          have HS := hide (total_snoc ss k hk')
          obtain ⟨y, hy⟩ : ∃ y, y = ss[k] := ⟨_, rfl⟩
          rw [← hy] at hx hs1 HS
          clear hy
          by_cases hfit : n + t + y.size ≤ left
          · go_wp2
            go_roundw
            case rel => exact ⟨k + 1, t + y.size, by omega, by go_num, by go_num, by rw [HS.out, HT.out], by omega, HB.out⟩
            case measure => simp [intOf]; omega
          · go_wp2
            go_ret
            exact ⟨_, rfl, by omega, HB.out⟩
        · have HA := hide (total_all ss k (by have := hlen.out; omega))
          go_wp2
          go_ret
          exact ⟨_, rfl, fun _ => by rw [← HA.out, HT.out]; omega, HB.out⟩

set_option maxHeartbeats 400000 in
theorem toStringS_any (a : Option Addr) (n c : Nat) (ss : List ByteArray) (w : World) (hn : n ≤ 2000000) (hin : InStr w a n ss) :
    Calls Try.prog 22 #[.slice a n c] w (OwnsStrs w ss) := by
  obtain ⟨hlen, hmax, hsz, hpl⟩ := hin
  clear hsz
  unfold maxLen at hmax
  rcases hpl with h0 | ⟨g, o, rfl, hg, hcell⟩
  · have hss : ss = [] := List.eq_nil_of_length_eq_zero (by omega)
    subst h0; subst hss
    clear hlen
    go_enter Try.func22, Try.ntmps22
    go_wp2_with (at_make; refine wpList_new w.heap.size 0 (.string ⟨#[]⟩) rfl _ _ rfl Try.underlying23 Try.infoStr rfl (by decide) rfl rfl (by omega) (Nat.le_refl _) ?_; intro w1 hown1 hb1 hg1)
    have HO := hide hown1; have HB := hide hb1
    clear hown1 hb1 hg1
    go_wp2
    go_loop [4] (fun i => i = .int .i64 0) (fun _ => 0)
    case atStart => rfl
    case round =>
      obtain rfl := hrel
      go_wp2
      go_ret
      exact ⟨_, rfl, by simpa using HO.out, HB.out⟩
  · have HC := hide hcell
    clear hcell
    have hlen := hide hlen
    go_enter Try.func22, Try.ntmps22
    go_wp2_with (at_make; refine wpList_new w.heap.size n (.string ⟨#[]⟩) rfl _ _ rfl Try.underlying23 Try.infoStr rfl (by decide) rfl rfl (by omega) (Nat.le_refl _) ?_; intro w1 hown1 hb1 hg1)
    have HO := hide hown1; have HB := hide hb1
    clear hown1 hb1 hg1
    go_wp2
    go_loopw [4] (fun i w' => ∃ k : Nat, k ≤ n ∧ i = .int .i64 k ∧ w'.ownsRow w.heap.size 9 1 (.slice (some ⟨w.heap.size, 0, none⟩) n n) n (fillTo (ss.map .string) k (.string ⟨#[]⟩)) ∧ Below w.heap.size w w') (fun i _ => n - (intOf i).toNat)
    case atStart => exact ⟨0, Nat.zero_le _, rfl, by rw [fill_zero, List.length_map, hlen.out]; exact HO.out, HB.out⟩
    case round =>
      clear HO HB
      obtain ⟨k, hk, rfl, hown, hb⟩ := hrel
      have HO := hide hown; have HB := hide hb
      clear hown hb
      by_cases hlt : k < n
      · have hk' : k < ss.length := by rw [hlen.out]; exact hlt
        have hx : wr.cell? ⟨g, o + k, none⟩ = some (.string ss[k]) := below_cell HB.out hg (HC.out k hk')
        have hx2 := cell_held HO.out hlt
        have hf2 := HO.out.frozenAt k
        have HS := HO.out.stored k (.string ss[k])
        rw [fill_set _ k _ (by simpa using hk') (.string ss[k]) (by simp)] at HS
        have HS := hide HS
        obtain ⟨y, hy⟩ : ∃ y, y = ss[k] := ⟨_, rfl⟩
        rw [← hy] at hx HS
        clear hy
        go_wp2
        go_roundw
        case rel => exact ⟨k + 1, by omega, by go_num, HS.out.1, HB.out.setCell (Nat.le_refl _) _⟩
        case measure => simp [intOf]; omega
      · have hkn : k = n := by omega
        have HE : Hid (fillTo (ss.map Value.string) k (.string ⟨#[]⟩) = ss.map .string) := hide (fill_all _ _ _ (by rw [List.length_map, hlen.out]; omega))
        go_wp2
        go_ret
        exact ⟨_, rfl, by rw [hlen.out]; have := HO.out; rw [HE.out] at this; exact this, HB.out⟩
end Go.Proofs.Ytfdcfjlndijhlaa
