/-
  SplitAny, of the model and of the program: both return the parts of the string between the separating bytes.
-/
import Derived.Test.YtfdcfjlndijhlaaDoorMem
namespace Go.Proofs.YtfdcfjlndijhlaaDoor
open Go.RowKit

def sepB (by' : ByteArray) (c : UInt8) : Bool := by'.data.toList.contains c
def splitGo (s by' : ByteArray) : Nat → List ByteArray × Nat
  | 0 => ([], 0)
  | k + 1 => if sepB by' (s.get! k) then ((splitGo s by' k).1 ++ [s.extract (splitGo s by' k).2 k], k + 1) else splitGo s by' k
def splitS (s by' : ByteArray) : List ByteArray := (splitGo s by' s.size).1 ++ [s.extract (splitGo s by' s.size).2 s.size]

def OwnsStrs (w : World) (l : List ByteArray) (e : Ending) (w' : World) : Prop := ∃ v, e = .returned v ∧ w'.ownsRow w.heap.size 9 1 v l.length (l.map .string) ∧ Below w.heap.size w w'
theorem Tryd.infoStr : (Tryd.prog.info? 9).map (fun i => (i.zero, i.size, i.bytes)) = some (some (.string ⟨#[]⟩), 1, 16) := by kernel_rfl


theorem split_hit {s by' : ByteArray} {k f : Nat} {l : List ByteArray} (h : splitGo s by' k = (l, f)) (hc : sepB by' (s.get! k) = true) : splitGo s by' (k + 1) = (l ++ [s.extract f k], k + 1) := by
  rw [splitGo, if_pos hc, h]
theorem split_miss {s by' : ByteArray} {k f : Nat} {l : List ByteArray} (h : splitGo s by' k = (l, f)) (hc : sepB by' (s.get! k) = false) : splitGo s by' (k + 1) = (l, f) := by
  rw [splitGo, if_neg (by simp [hc]), h]
theorem split_end {s by' : ByteArray} {k f : Nat} {l : List ByteArray} (h : splitGo s by' k = (l, f)) (hk : k = s.size) : splitS s by' = l ++ [s.extract f s.size] := by
  subst hk; rw [splitS, h]
theorem get_elem (s : ByteArray) (k : Nat) (h : k < s.size) : s.get! k = s[k] := by
  have := get_at s k h; simpa using this
theorem sep_yes (by' : ByteArray) (c : UInt8) (j : Nat) (h : j < by'.size) (e : by'[j] = c) : sepB by' c = true := by
  rw [sepB, List.contains_iff_mem, ← e]; simp [ByteArray.getElem_eq_getElem_data]
theorem sep_no (by' : ByteArray) (c : UInt8) (h : ∀ j, (hj : j < by'.size) → by'[j] ≠ c) : sepB by' c = false := by
  rw [Bool.eq_false_iff]; intro hc
  rw [sepB, List.contains_iff_mem] at hc
  obtain ⟨j, hj, e⟩ := List.getElem_of_mem hc
  exact h j (by simpa using hj) (by simpa [ByteArray.getElem_eq_getElem_data] using e)

def falses : Array Value := Array.replicate 256 (.bool false)
theorem zeroBools (w : World) : (zeroValue 46).run Tryd.prog w = .ok (.agg falses) w := by kernel_rfl
def sepUp (by' : ByteArray) (j c : Nat) : Bool := (by'.data.toList.take j).any fun x => x.toNat == c
theorem sepUp_zero (by' : ByteArray) (c : Nat) : sepUp by' 0 c = false := by simp [sepUp]
theorem sepUp_succ (by' : ByteArray) (j c : Nat) (h : j < by'.size) : sepUp by' (j + 1) c = (sepUp by' j c || by'[j].toNat == c) := by
  rw [sepUp, List.take_succ_eq_append_getElem (by simpa using h), List.any_append]; simp [sepUp, ByteArray.getElem_eq_getElem_data]
theorem sepUp_end (by' : ByteArray) (j : Nat) (c : UInt8) (h : by'.size ≤ j) : sepUp by' j c.toNat = sepB by' c := by
  rw [sepUp, List.take_of_length_le (by simpa using h), sepB, Bool.eq_iff_iff, List.any_eq_true, List.contains_iff_mem]
  constructor
  · rintro ⟨x, hx, e⟩
    have : x = c := UInt8.toNat_inj.1 (by simpa using e)
    exact this ▸ hx
  · intro hx; exact ⟨c, hx, by simp⟩
/-- The table of 256 bools in block B says which bytes separate. -/
def Table (w : World) (B : Nat) (p : Nat → Bool) : Prop := ∃ cur, w.heap[B]? = some (.cells cur 46 (0, 0)) ∧ cur.size = 256 ∧ ∀ c, c < 256 → cur[c]? = some (.bool (p c))
theorem table_new (w : World) : Table (w.alloc (.cells falses 46)) w.heap.size fun _ => false :=
  ⟨falses, heap_alloc_new w _, by simp [falses], fun c hc => by simp [falses, hc]⟩
theorem table_cell {w : World} {B : Nat} {p : Nat → Bool} (h : Table w B p) (c : Nat) (hc : c < 256) : w.cell? ⟨B, c, none⟩ = some (.bool (p c)) := by
  obtain ⟨cur, hh, _, hp⟩ := h
  rw [cell_of_row w B c cur _ (0, 0) hh]; exact hp c hc
theorem table_frozen {w : World} {B : Nat} {p : Nat → Bool} (h : Table w B p) (c : Nat) : w.frozen? ⟨B, c, none⟩ = false := by
  obtain ⟨cur, hh, _, hp⟩ := h
  exact frozen_of_row w B c cur _ hh
theorem table_set {w : World} {B : Nat} {p : Nat → Bool} (h : Table w B p) (c : Nat) (hc : c < 256) : Table (w.setCell ⟨B, c, none⟩ (.bool true)) B fun x => p x || c == x := by
  obtain ⟨cur, hh, hs, hp⟩ := h
  refine ⟨_, heap_setCell_same w B c cur _ _ hh, by simpa using hs, fun x hx => ?_⟩
  rw [Array.getElem?_setIfInBounds]
  by_cases e : c = x
  · subst e; simp [hs, hc]
  · rw [if_neg e, hp x hx]; simp [e]
theorem table_below {w w' : World} {B : Nat} {p : Nat → Bool} {row : Option Nat} (h : Table w B p) (hg : w.grownBy w' row) (hr : row ≠ some B) : Table w' B p := by
  obtain ⟨cur, hh, r⟩ := h
  exact ⟨cur, by rw [hg.block B (Array.getElem?_eq_some_iff.1 hh).1 (Ne.symm hr)]; exact hh, r⟩
theorem own_ne {w : World} {base e n B : Nat} {v : Value} {xs : List Value} (h : w.ownsRow base e 1 v n xs) (hB : B < base) : v.ownBlock ≠ some B := by
  intro e; have := (h.lt B e).1; omega

set_option maxRecDepth 100000 in
set_option maxHeartbeats 400000 in
theorem implSplitAny_any (s by' : ByteArray) (w : World) (hs : s.size ≤ 1048576) (hby : by'.size ≤ 1048576) :
    Calls Tryd.prog 11 #[.string s, .string by'] w (OwnsStrs w (splitS s by')) := by
  go_enter Tryd.func11, Tryd.ntmps11
  have hz := zeroBools w
  go_wp2
  go_loopw [6, 12] (fun _ i w' => ∃ j : Nat, j ≤ by'.size ∧ i = .int .i64 j ∧ Table w' w.heap.size (sepUp by' j) ∧ w.heap.size < w'.heap.size ∧ Below w.heap.size w w') (fun _ i _ => by'.size - (intOf i).toNat)
  case atStart => exact ⟨0, Nat.zero_le _, rfl, (by rw [show sepUp by' 0 = fun _ => false from funext (sepUp_zero by')]; exact table_new w), (by simp), (Below.refl _ _).alloc (Nat.le_refl _) _⟩
  case round =>
    obtain ⟨j, hj, rfl, ht, hsz, hb⟩ := hrel
    have HT := hide ht; have HB := hide hb
    clear ht hb
    by_cases hlt : j < by'.size
    · have h256 : by'[j].toNat < 256 := UInt8.toNat_lt _
      have hx := table_cell HT.out by'[j].toNat h256
      have hf := table_frozen HT.out by'[j].toNat
      go_wp2
      go_roundw
      case rel => exact ⟨j + 1, by omega, by go_num, (by rw [show sepUp by' (j + 1) = fun x => sepUp by' j x || by'[j].toNat == x from funext fun x => sepUp_succ by' j x hlt]; exact table_set HT.out _ h256), by simpa using hsz, HB.out.setCell (Nat.le_refl _) _⟩
      case measure => simp [intOf]; omega
    · have HE : Hid (∀ c : UInt8, sepUp by' j c.toNat = sepB by' c) := hide fun c => sepUp_end by' j c (by omega)
      obtain ⟨p, hp⟩ : ∃ p, p = sepUp by' j := ⟨_, rfl⟩
      rw [← hp] at HT HE
      clear hp
      go_wp2
      go_loopw [7, 8, 9, 22] (fun out fr _ i w' => ∃ (v : Value) (k f : Nat) (l : List ByteArray), k ≤ s.size ∧ f ≤ k ∧ l.length ≤ k ∧ splitGo s by' k = (l, f) ∧ i = .int .i64 k ∧ fr = .int .i64 f ∧ v = out ∧ Table w' w.heap.size p ∧ w'.ownsRow (w.heap.size + 1) 9 1 v l.length (l.map .string) ∧ w.heap.size < w'.heap.size ∧ Below w.heap.size w w') (fun _ _ _ i _ => s.size - (intOf i).toNat)
      case atStart => exact ⟨_, 0, 0, [], Nat.zero_le _, Nat.le_refl _, Nat.le_refl _, rfl, rfl, rfl, rfl, HT.out, World.ownsRow_nil _ _ _ _, hsz, HB.out⟩
      case round =>
        clear hsz HT HB
        obtain ⟨v, k, f, l, hk, hfk, hlk, hsp, rfl, rfl, rfl, ht, hown, hsz, hb⟩ := hrel
        have HS := hide hsp; have HO := hide hown; have HB := hide hb; have HT := hide ht
        clear hsp hown hb ht
        by_cases hlt : k < s.size
        · have hget := hide (get_elem s k hlt)
          have hp := HE.out s[k]
          have h256 : s[k].toNat < 256 := UInt8.toNat_lt _
          have hx := table_cell HT.out s[k].toNat (UInt8.toNat_lt _)
          rw [hp] at hx
          clear hp
          by_cases hc : sepB by' s[k] = true
          · have HS' := hide (split_hit HS.out (by rw [hget.out]; exact hc))
            rw [hc] at hx
            clear hc
            go_wp2_with (at_builtin; refine wpList_push HO.out (.string (s.extract f k)) (.string ⟨#[]⟩) rfl _ _ rfl Tryd.underlying29 Tryd.infoStr rfl (by decide) rfl rfl rfl (by omega) (by omega) ?_; intro v' w1 hown1 hb1 hg1)
            go_roundw
            case rel => exact ⟨_, k + 1, k + 1, _, hlt, Nat.le_refl _, (by simp; omega), HS'.out, by go_num, by go_num, rfl, table_below HT.out hg1 (own_ne HO.out (by omega)), (by simpa using hown1), Nat.lt_of_lt_of_le hsz hb1.size, HB.out.trans (hb1.mono (by omega))⟩
            case measure => simp [intOf]; omega
          · have hc' : sepB by' s[k] = false := by simpa using hc
            have HS' := hide (split_miss HS.out (by rw [hget.out]; exact hc'))
            rw [hc'] at hx
            clear hc hc'
            go_wp2
            go_roundw
            case rel => exact ⟨_, k + 1, f, l, hlt, by omega, by omega, HS'.out, by go_num, rfl, rfl, HT.out, HO.out, hsz, HB.out⟩
            case measure => simp [intOf]; omega
        · have HE := hide (split_end HS.out (by omega))
          go_wp2_with (at_builtin; refine wpList_push HO.out (.string (s.extract f s.size)) (.string ⟨#[]⟩) rfl _ _ rfl Tryd.underlying29 Tryd.infoStr rfl (by decide) rfl rfl rfl (by omega) (by omega) ?_; intro v' w1 hown1 hb1 hg1)
          go_ret
          exact ⟨_, rfl, own_base (by rw [HE.out]; simpa using hown1) (Nat.le_succ _), HB.out.trans (hb1.mono (by omega))⟩
end Go.Proofs.YtfdcfjlndijhlaaDoor
