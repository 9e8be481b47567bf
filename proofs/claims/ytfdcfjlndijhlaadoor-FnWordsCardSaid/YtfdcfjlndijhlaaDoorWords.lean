/-
  The law FnWords, walked: integers are recovered from their text, and strings from their parts.
-/
import Derived.Test.YtfdcfjlndijhlaaDoorText
import Derived.Test.YtfdcfjlndijhlaaDoorParse
import Derived.Test.YtfdcfjlndijhlaaDoorJoin
import Derived.Test.YtfdcfjlndijhlaaDoorLines
import Derived.Test.YtfdcfjlndijhlaaDoorName
namespace Go.Proofs.YtfdcfjlndijhlaaDoor
open Go.RowKit

theorem join_snoc (l : List (List UInt8)) (x sep : List UInt8) (h : l ≠ []) : Lib.join (l ++ [x]) sep = Lib.join l sep ++ sep ++ x := by
  cases l with
  | nil => exact absurd rfl h
  | cons y r => rw [List.cons_append, Lib.join_cons, joinTail_snoc, Lib.join_cons, List.append_assoc, List.append_assoc, List.append_assoc]
theorem join_more (l : List (List UInt8)) (x y sep : List UInt8) : Lib.join (l ++ [x ++ y]) sep = Lib.join (l ++ [x]) sep ++ y := by
  by_cases h : l = []
  · subst h; simp [Lib.join_one]
  · rw [join_snoc l _ _ h, join_snoc l _ _ h]; simp only [List.append_assoc]
def blank : ByteArray := ⟨#[32]⟩
theorem ext_list (s : ByteArray) (a b : Nat) : (s.extract a b).data.toList = (s.data.toList.drop a).take (b - a) := by
  simp [ByteArray.data_extract, Array.toList_extract, List.extract]
theorem ext_more (s : ByteArray) (f k : Nat) (hf : f ≤ k) (hk : k < s.size) : (s.extract f (k + 1)).data.toList = (s.extract f k).data.toList ++ [s[k]] := by
  rw [ext_list, ext_list, show k + 1 - f = (k - f) + 1 by omega, List.take_succ_eq_append_getElem (by simp; omega)]
  congr 1
  simp [ByteArray.getElem_eq_getElem_data, show f + (k - f) = k by omega]
theorem ext_none (s : ByteArray) (k : Nat) : (s.extract k k).data.toList = [] := by rw [ext_list]; simp
theorem sep_blank (c : UInt8) (h : sepB blank c = true) : c = 32 := by
  simpa [sepB, blank] using h
theorem parts_join (s : ByteArray) : ∀ k, k ≤ s.size → (splitGo s blank k).2 ≤ k ∧ joinL ((splitGo s blank k).1 ++ [s.extract (splitGo s blank k).2 k]) blank = s.data.toList.take k
  | 0, _ => by
    refine ⟨Nat.le_refl _, ?_⟩
    simp only [splitGo, List.nil_append, joinL, List.map_cons, List.map_nil, Lib.join_one, ext_none, List.take_zero]
  | k + 1, hk => by
    obtain ⟨h1, h2⟩ := parts_join s k (by omega)
    obtain ⟨⟨l, f⟩, hp⟩ : ∃ p, p = splitGo s blank k := ⟨_, rfl⟩
    rw [← hp] at h1 h2
    simp only at h1 h2
    have hg := get_elem s k (by omega)
    by_cases hc : sepB blank (s.get! k) = true
    · rw [split_hit hp.symm hc]
      refine ⟨Nat.le_refl _, ?_⟩
      simp only
      have h32 : s[k] = 32 := sep_blank _ (by rw [← hg]; exact hc)
      rw [joinL, List.map_append, List.map_cons, List.map_nil, join_snoc _ _ _ (by simp), ext_none, List.append_nil, take_snoc s k (by omega), h32]
      rw [joinL] at h2
      rw [h2]; rfl
    · rw [split_miss hp.symm (by simpa using hc)]
      refine ⟨by omega, ?_⟩
      simp only
      rw [joinL, List.map_append, List.map_cons, List.map_nil, ext_more s f k h1 (by omega), join_more, take_snoc s k (by omega)]
      rw [joinL, List.map_append, List.map_cons, List.map_nil] at h2
      rw [h2]
theorem join_split (s : ByteArray) : joinB (splitS s blank) blank = s := by
  have h := (parts_join s s.size (Nat.le_refl _)).2
  rw [take_all s s.size (Nat.le_refl _)] at h
  rw [joinB, splitS, h]
theorem splitGo_total (s : ByteArray) : ∀ k, k ≤ s.size → (splitGo s blank k).1.length + total (splitGo s blank k).1 + (k - (splitGo s blank k).2) ≤ k + k ∧ (splitGo s blank k).2 ≤ k
  | 0, _ => by simp [splitGo, total]
  | k + 1, hk => by
    obtain ⟨h1, h2⟩ := splitGo_total s k (by omega)
    rw [splitGo]; split
    · simp only [List.length_append, List.length_cons, List.length_nil, total, List.map_append, List.sum_append, List.map_cons, List.map_nil, List.sum_cons, List.sum_nil] at h1 ⊢
      have : (s.extract (splitGo s blank k).2 k).size = k - (splitGo s blank k).2 := by simp; omega
      omega
    · omega
theorem splitS_fits (s : ByteArray) (h : s.size ≤ 14) : (splitS s blank).length + total (splitS s blank) ≤ 100 := by
  obtain ⟨h1, h2⟩ := splitGo_total s s.size (Nat.le_refl _)
  have : (s.extract (splitGo s blank s.size).2 s.size).size = s.size - (splitGo s blank s.size).2 := by simp
  simp only [splitS, List.length_append, List.length_cons, List.length_nil, total, List.map_append, List.sum_append, List.map_cons, List.map_nil, List.sum_cons, List.sum_nil] at h1 ⊢
  omega

def nameX : ByteArray := ⟨#[120, 49]⟩
theorem name_x : nameS nameX = true := by
  have h1 := name_step nameX 0 (by decide) (name_zero _) (nameC_low (lowR_yes (by decide) (by decide)))
  have h2 := name_step nameX 1 (by decide) h1 (nameC_dig (by decide) (digR_yes (by decide) (by decide)))
  rw [name_end nameX 2 (by decide) h2]; rfl
def textAB : ByteArray := ⟨#[97, 10, 98, 10]⟩
theorem lines_ab : (linesS textAB).length = 2 := by kernel_rfl
theorem parse_back (n : Int) (h0 : -9223372036854775808 ≤ n) (h1 : n ≤ 9223372036854775807) : pv ⟨(Lib.itoa n).toArray⟩ = n ∧ pb ⟨(Lib.itoa n).toArray⟩ = true :=
  pv_some (parse_of _ n h0 h1 rfl)

set_option maxHeartbeats 1000000 in
theorem lawWords_walk (a : Option Addr) (n c : Nat) (w : World) (hin : InBytes w w.heap.size a n) (hl : Lib.TabIs Tryd.prog w "internal/strconv.uint64pow10" .u64 Lib.pow10Tab ∧ SentIs w "strconv.ErrSyntax" ∧ SentIs w "strconv.ErrRange") :
    Calls Tryd.prog 3 #[.slice a n c] w fun e w' => e = .returned (.bool true) ∧ Below w.heap.size w w' := by
  have HL := hide hl; have HI := hide hin
  have hmax := hin.1
  unfold maxLen at hmax
  clear hl hin
  by_cases h1 : 1048576 < n
  · go_enter Tryd.func3, Tryd.ntmps3
    go_wp2
    go_ret
    exact ⟨rfl, Below.refl _ _⟩
  · go_enter Tryd.func3, Tryd.ntmps3
    go_wp2_with fail
    refine (makeNum_any n c a 1 _ _ HI.out (by omega) (by omega)).mono ?_
    rintro e w1 ⟨x, hx0, hx1, rfl, hb1⟩
    have HB1 := hide hb1
    clear hb1
    go_wp2_with fail
    refine (implFormat_any (x - 30000) _ (by omega) (by omega) (tab_below HL.out.1 HB1.out)).mono ?_
    rintro e w2 ⟨rfl, hb2⟩
    have HB2 := hide (HB1.out.trans (hb2.mono HB1.out.size))
    clear hb2
    have hlen := itoa_len (x - 30000) (by omega) (by omega)
    have HP := hide (parse_back (x - 30000) (by omega) (by omega))
    go_wp2_with fail
    refine (implParse_any _ _ (by rw [size_list]; omega) (tab_below HL.out.1 HB2.out) (sent_below HL.out.2.1 HB2.out) (sent_below HL.out.2.2 HB2.out)).mono ?_
    rintro e w3 ⟨rfl, hb3⟩
    rw [HP.out.1, HP.out.2]
    have HB3 := hide (HB2.out.trans (hb3.mono HB2.out.size))
    clear hb3
    go_wp2_with fail
    refine (makeText_any n c a _ _ (inBytes_below HI.out HB3.out) (by omega)).mono ?_
    rintro e w4 ⟨s, hs, rfl, hb4⟩
    have HB4 := hide (HB3.out.trans (hb4.mono HB3.out.size))
    clear hb4
    have HF := hide (splitS_fits s hs); have HJ := hide (join_split s)
    go_wp2_with fail
    refine (implSplitAny_any s blank _ (by omega) (by decide)).mono ?_
    rintro e w5 ⟨v, rfl, ho5, hb5⟩
    have HO5 := hide ho5; have HB5 := hide (HB4.out.trans (hb5.mono HB4.out.size))
    clear ho5 hb5
    go_wp2_with fail
    refine (implJoin_any (splitS s blank) v _ blank _ (by decide) (by have := HF.out; omega) HO5.out).mono ?_
    rintro e w6 ⟨rfl, hb6⟩
    rw [HJ.out]
    have HB6 := hide (HB5.out.trans (hb6.mono HB5.out.size))
    clear hb6
    go_wp2_with fail
    refine (implIsName_any nameX _ (by decide)).mono ?_
    rintro e w7 ⟨rfl, hb7⟩
    rw [name_x]
    have HB7 := hide (HB6.out.trans (hb7.mono HB6.out.size))
    clear hb7
    go_wp2_with fail
    refine (implSplitLines_any textAB _ (by decide)).mono ?_
    rintro e w8 ⟨v8, rfl, ho8, hb8⟩
    rw [lines_ab] at ho8
    obtain ⟨a8, c8, rfl⟩ := own_slice ho8
    have HB8 := hide (HB7.out.trans (hb8.mono HB7.out.size))
    clear hb8 ho8
    go_wp2
    go_ret
    exact ⟨rfl, HB8.out⟩
end Go.Proofs.YtfdcfjlndijhlaaDoor
