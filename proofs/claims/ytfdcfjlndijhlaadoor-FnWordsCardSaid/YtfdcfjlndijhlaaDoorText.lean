/-
  The text that the laws draw from a code: some string of at most 14 bytes.
-/
import Derived.Test.YtfdcfjlndijhlaaDoorCur
namespace Go.Proofs.YtfdcfjlndijhlaaDoor
open Go.RowKit

def PickRes (w : World) (B : Nat) (a : Option Addr) (n : Nat) (ss : List ByteArray) (e : Ending) (w' : World) : Prop :=
  ∃ s : ByteArray, s ∈ ss ∧ e = .returned (.string s) ∧ CurAt w' B a n ∧ w.grownBy w' (some B)

set_option maxHeartbeats 400000 in
theorem l01Str_any (B n g c : Nat) (a : Option Addr) (ss : List ByteArray) (w : World) (base : Nat) (hl0 : 1 ≤ ss.length) (hl1 : ss.length ≤ 256) (hc : CurAt w B a n) (hin : InBytes w base a n) (hbase : base ≤ B)
    (hg : g ≠ B) (hcell : ∀ j, (h : j < ss.length) → w.cell? ⟨g, j, none⟩ = some (.string ss[j])) :
    Calls Tryd.prog 22 #[.pointer (some ⟨B, 0, none⟩), .slice (some ⟨g, 0, none⟩) ss.length c] w (PickRes w B a n ss) := by
  have HC := hide hc; have HI := hide hin; have HL := hide hcell
  clear hc hin hcell
  go_enter Tryd.func22, Tryd.ntmps22
  go_wp2_with fail
  refine (l01Below_any B n a (ss.length : Int) _ base (by omega) (by omega) HC.out HI.out hbase).mono ?_
  rintro e w2 ⟨x, hx0, hx1, rfl, hc2, hg2⟩
  obtain ⟨k, rfl⟩ : ∃ k : Nat, x = (k : Int) := ⟨x.toNat, by omega⟩
  have hk : k < ss.length := by omega
  have hx : w2.cell? ⟨g, k, none⟩ = some (.string ss[k]) := hg2.cell (HL.out k hk) (by simpa using hg)
  have hmem : ss[k] ∈ ss := List.getElem_mem hk
  replace hc2 := hide hc2; replace hg2 := hide hg2
  obtain ⟨y, hy⟩ : ∃ y, y = ss[k] := ⟨_, rfl⟩
  rw [← hy] at hx hmem
  replace hmem := hide hmem
  clear hy
  go_wp2
  go_ret
  exact ⟨y, hmem.out, rfl, hc2.out, hg2.out⟩

def words5 : List ByteArray := [⟨#[97]⟩, ⟨#[98, 99]⟩, ⟨#[32]⟩, ⟨#[44]⟩, ⟨#[120, 49]⟩]
theorem words5_size {s : ByteArray} (h : s ∈ words5) : s.size ≤ 2 := by
  simp only [words5, List.mem_cons, List.not_mem_nil, or_false] at h
  rcases h with rfl | rfl | rfl | rfl | rfl <;> decide
theorem words5_cells (w : World) : ∀ j, (h : j < words5.length) → (w.alloc (.cells #[.string ⟨#[97]⟩, .string ⟨#[98, 99]⟩, .string ⟨#[32]⟩, .string ⟨#[44]⟩, .string ⟨#[120, 49]⟩] 9)).cell? ⟨w.heap.size, j, none⟩ = some (.string words5[j]) := by
  intro j h
  rw [cell_of_row _ _ _ _ _ _ (heap_alloc_new w _)]
  have h5 : j < 5 := h
  match j, h5 with
  | 0, _ => rfl
  | 1, _ => rfl
  | 2, _ => rfl
  | 3, _ => rfl
  | 4, _ => rfl
theorem curAt_alloc {w : World} {B n : Nat} {a : Option Addr} (h : CurAt w B a n) (o : Obj) : CurAt (w.alloc o) B a n := by
  obtain ⟨c, i, h', hB, r⟩ := h
  exact ⟨c, i, h', by rw [Below.heap_alloc w o B (Array.getElem?_eq_some_iff.1 hB).1]; exact hB, r⟩
def TextRes (w : World) (e : Ending) (w' : World) : Prop := ∃ s : ByteArray, s.size ≤ 14 ∧ e = .returned (.string s) ∧ Below w.heap.size w w'

set_option maxHeartbeats 400000 in
theorem makeText_any (n c : Nat) (a : Option Addr) (w : World) (base : Nat) (hin : InBytes w base a n) (hn : n ≤ 2000000) :
    Calls Tryd.prog 9 #[.slice a n c] w (TextRes w) := by
  have HI := hide hin
  clear hin
  go_enter Tryd.func9, Tryd.ntmps9
  go_wp2_with fail
  refine (l01New_any n c a _ base HI.out hn).mono ?_
  rintro e w1 ⟨rfl, hc, hb, hlt⟩
  have HC := hide hc; have HB := hide hb; have HL := hide hlt
  clear hc hb hlt
  go_wp2_with fail
  refine (l01Below_any _ n a 8 _ base (by omega) (by omega) HC.out (inBytes_below HI.out (HB.out.mono HI.out.2.1)) HI.out.2.1).mono ?_
  rintro e w2 ⟨x, hx0, hx1, rfl, hc2, hg2⟩
  replace hc2 := hide hc2
  have HB2 := hide (below_drawn HB.out hg2 (Nat.le_refl _))
  have HL2 := hide (Nat.lt_of_lt_of_le HL.out hg2.size)
  clear hg2 HC HB HL
  go_wp2_with fail
  go_loopw [4, 5] (fun s i w' => ∃ (t : ByteArray) (k : Nat), k ≤ 7 ∧ t.size ≤ 2 * (7 - k) ∧ s = .string t ∧ i = .int .i64 k ∧ CurAt w' w.heap.size a n ∧ Below w.heap.size w w' ∧ w.heap.size < w'.heap.size) (fun _ i _ => (intOf i).toNat)
  case atStart => exact ⟨_, x.toNat, by omega, (by show 0 ≤ _; omega), rfl, (by congr 1; omega), hc2.out, HB2.out, HL2.out⟩
  case round =>
    clear hc2 HB2 HL2
    obtain ⟨t, k, hk, hsz, rfl, rfl, hc, hb, hlt⟩ := hrel
    have HC := hide hc; have HB := hide hb; have HL := hide hlt
    clear hc hb hlt
    by_cases hk0 : 0 < k
    · have hci := curAt_alloc HC.out (.cells #[.string ⟨#[97]⟩, .string ⟨#[98, 99]⟩, .string ⟨#[32]⟩, .string ⟨#[44]⟩, .string ⟨#[120, 49]⟩] 9)
      have hbi : Below w.heap.size w (wr.alloc (.cells #[.string ⟨#[97]⟩, .string ⟨#[98, 99]⟩, .string ⟨#[32]⟩, .string ⟨#[44]⟩, .string ⟨#[120, 49]⟩] 9)) := HB.out.alloc HB.out.size _
      have HCI := hide hci; have HBI := hide hbi; have HW := hide (words5_cells wr)
      clear hci hbi
      go_wp2_with fail
      refine (l01Str_any _ n wr.heap.size 5 a words5 _ base (by decide) (by decide) HCI.out (inBytes_below HI.out (HBI.out.mono HI.out.2.1)) HI.out.2.1 (by have := HL.out; omega) HW.out).mono ?_
      rintro e w3 ⟨y, hy, rfl, hc3, hg3⟩
      have hys := words5_size hy
      replace hc3 := hide hc3
      have HB3 := hide (below_drawn HBI.out hg3 (Nat.le_refl _))
      have HL3 : Hid (w.heap.size < w3.heap.size) := hide (Nat.lt_of_lt_of_le (by have := HL.out; simp; omega) hg3.size)
      clear hg3 hy
      go_wp2_with fail
      go_roundw
      case rel => exact ⟨_, k - 1, by omega, (by rw [ByteArray.size_append']; omega), rfl, by go_num, hc3.out, HB3.out, HL3.out⟩
      case measure => simp [intOf]; omega
    · go_wp2_with fail
      go_ret
      exact ⟨t, by omega, rfl, HB.out⟩
end Go.Proofs.YtfdcfjlndijhlaaDoor
