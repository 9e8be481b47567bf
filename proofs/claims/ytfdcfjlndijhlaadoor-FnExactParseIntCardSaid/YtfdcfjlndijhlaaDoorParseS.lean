/-
  ParseInt of the model: the number that the string is the numeral of.
-/
import Derived.Test.YtfdcfjlndijhlaaDoorParse
namespace Go.Proofs.YtfdcfjlndijhlaaDoor
open Go.RowKit

theorem digS_at {t : ByteArray} (h : digS t = true) (k : Nat) (hk : k < t.size) : 48 ≤ (t[k].toNat : Int) ∧ (t[k].toNat : Int) ≤ 57 := by
  simp only [digS, Bool.and_eq_true, digL, List.all_eq_true] at h
  have := h.2 t[k] (by simp [ByteArray.getElem_eq_getElem_data])
  simpa [digR] using this
theorem none_of {s : ByteArray} {n : Int} (h : parseR s = none) (h0 : -9223372036854775808 ≤ n) (h1 : n ≤ 9223372036854775807) : (Lib.itoa n == s.toList) = false := by
  rw [ByteArray.toList_eq, beq_eq_false_iff_ne]
  intro e; rw [parse_of s n h0 h1 e] at h; cases h
theorem chk_fits (z c : Int) (hz : z ≤ 0) (hl : -9223372036854775808 ≤ z) (h48 : 48 ≤ c) (h57 : c ≤ 57) (h : ¬ z < (-9223372036854775808 + (c - 48)).tdiv 10) : -9223372036854775808 ≤ z * 10 - (c - 48) ∧ z * 10 - (c - 48) ≤ 0 := by
  have e : (-9223372036854775808 + (c - 48)).tdiv 10 = -((9223372036854775808 - (c - 48)) / 10) := by
    rw [show (-9223372036854775808 + (c - 48)) = -(9223372036854775808 - (c - 48)) by omega, Int.neg_tdiv, Int.tdiv_eq_ediv_of_nonneg (by omega)]
  rw [e] at h; omega

theorem chk_ok (v c : Int) (h48 : 48 ≤ c) (h57 : c ≤ 57) (h : v * 10 + (c - 48) ≤ 9223372036854775808) : ¬ -v < (-9223372036854775808 + (c - 48)).tdiv 10 := by
  have e : (-9223372036854775808 + (c - 48)).tdiv 10 = -((9223372036854775808 - (c - 48)) / 10) := by
    rw [show (-9223372036854775808 + (c - 48)) = -(9223372036854775808 - (c - 48)) by omega, Int.neg_tdiv, Int.tdiv_eq_ediv_of_nonneg (by omega)]
  rw [e]; omega
theorem digS_list {t : ByteArray} {m : Nat} (h : t.data.toList = Lib.decDigits m) : digS t = true := by
  have h1 := digits_pos m
  have h2 : t.size = (Lib.decDigits m).length := by rw [← h]; simp
  have h3 : digL t.data.toList = true := by rw [h]; exact digL_digits m m (Nat.le_refl _)
  simp [digS, h3]; omega
theorem list_size {t : ByteArray} {m : Nat} (h : t.data.toList = Lib.decDigits m) (hm : m ≤ 9223372036854775808) : t.size ≤ 19 := by
  have h2 : t.size = (Lib.decDigits m).length := by rw [← h]; simp
  rw [h2]; exact digits_len m 19 (by omega) (by omega)
theorem list_val {t : ByteArray} {m : Nat} (h : t.data.toList = Lib.decDigits m) : decOn 0 t.data.toList = m := by rw [h, dec_digits m m (Nat.le_refl _)]
theorem head_at {s : ByteArray} {c : UInt8} {r : List UInt8} (h : s.data.toList = c :: r) (hp : 0 < s.size) : s[0] = c := by
  have : s.data.toList[0]? = some c := by rw [h]; rfl
  rw [List.getElem?_eq_getElem (by simpa using hp)] at this
  simpa [ByteArray.getElem_eq_getElem_data] using this
theorem tail_at {s : ByteArray} {c : UInt8} {r : List UInt8} (h : s.data.toList = c :: r) : (s.extract 1 s.size).data.toList = r := by
  have : (s.extract 1 s.size).data.toList = (s.data.toList.drop 1).take (s.size - 1) := by simp [ByteArray.data_extract, Array.toList_extract, List.extract]
  rw [this, h, List.drop_succ_cons, List.drop_zero, List.take_of_length_le]
  have : s.data.toList.length = r.length + 1 := by rw [h]; rfl
  have e : s.data.toList.length = s.size := by simp
  omega
/-- A numeral that begins with a minus sign. -/
theorem some_neg {s : ByteArray} {n : Int} (h : parseR s = some n) (hp : 0 < s.size) (h45 : s[0].toNat = 45) : ∃ m : Nat, n = -(m : Int) ∧ m ≤ 9223372036854775808 ∧ (s.extract 1 s.size).data.toList = Lib.decDigits m := by
  obtain ⟨h1, h2, h3⟩ := parse_some h
  rw [Lib.itoa] at h1
  split at h1
  · exact ⟨n.natAbs, by omega, by omega, tail_at h1.symm⟩
  · obtain ⟨c, r, hd, hc1, hc2⟩ := digits_head n.toNat
    rw [hd] at h1
    rw [head_at h1.symm hp] at h45; omega
theorem some_pos {s : ByteArray} {n : Int} (h : parseR s = some n) (h45 : ∀ hp : 0 < s.size, s[0].toNat ≠ 45) : ∃ m : Nat, n = (m : Int) ∧ m ≤ 9223372036854775807 ∧ s.data.toList = Lib.decDigits m := by
  obtain ⟨h1, h2, h3⟩ := parse_some h
  rw [Lib.itoa] at h1
  split at h1
  · have hp : 0 < s.size := by
      have : s.data.toList.length = s.size := by simp
      rw [← h1] at this; simp at this; omega
    exact absurd (by rw [head_at h1.symm hp]; rfl) (h45 hp)
  · exact ⟨n.toNat, by omega, by omega, h1.symm⟩

set_option maxRecDepth 100000 in
set_option maxHeartbeats 400000 in
theorem specParse_noneNeg (s : ByteArray) (w : World) (hs : s.size ≤ 1048576) (hpos : 0 < s.size) (h45 : s[0].toNat = 45) (hp : parseR s = none) :
    Calls Tryd.prog 15 #[.string s] w fun e w' => e = .returned (.tuple #[.int .i64 (pv s), .bool (pb s)]) ∧ Below w.heap.size w w' := by
  have HP := hide (pv_none hp)
  have HN : Hid (∀ n : Int, -9223372036854775808 ≤ n → n ≤ 9223372036854775807 → (Lib.itoa n == s.toList) = false) := hide fun n => none_of hp
  clear hp
  have h45' : ((s[0].toNat : Int) == 45) = true := by simp [h45]
  have hts : (s.extract 1 s.size).size ≤ 1048576 := by simp; omega
  clear h45
  go_enter Tryd.func15, Tryd.ntmps15
  go_wp2_with fail
  obtain ⟨t, ht⟩ : ∃ t, t = s.extract 1 s.size := ⟨_, rfl⟩
  rw [← ht] at hts ⊢
  clear ht
  refine (specIsDigits_any t _ (by unfold maxLen; omega)).mono ?_
  rintro e w' ⟨rfl, rfl⟩
  by_cases hd : digS t = true
  · by_cases h19 : 19 < t.size
    · go_wp2
      go_ret2
      exact ⟨ret_parse HP.out, Below.refl _ _⟩
    · have HD := hide hd
      go_wp2
      go_loop [6, 7, 8] (fun n i _ => ∃ (k : Nat) (z : Int), k ≤ t.size ∧ i = .int .i64 k ∧ n = .int .i64 z ∧ -9223372036854775808 ≤ z ∧ z ≤ 0) (fun _ i _ => t.size - (intOf i).toNat)
      case atStart => exact ⟨0, 0, Nat.zero_le _, rfl, rfl, by omega, by omega⟩
      case round =>
        obtain ⟨k, z, hk, rfl, rfl, hz0, hz1⟩ := hrel
        by_cases hlt : k < t.size
        · obtain ⟨hd1, hd2⟩ := digS_at HD.out k hlt
          by_cases hchk : z < (-9223372036854775808 + ((t[k].toNat : Int) - 48)).tdiv 10
          · go_wp2
            go_ret2
            exact ⟨ret_parse HP.out, Below.refl _ _⟩
          · obtain ⟨hf1, hf2⟩ := chk_fits z _ hz1 hz0 hd1 hd2 hchk
            go_wp2
            go_round
            case rel => exact ⟨k + 1, _, by omega, by go_num, rfl, hf1, hf2⟩
            case measure => simp [intOf]; omega
        · have hq := HN.out z hz0 (by omega)
          go_wp2_with fail
          refine (specFormat_any z _ hz0 (by omega)).mono ?_
          rintro e w' ⟨rfl, hb⟩
          go_wp2
          go_ret2
          exact ⟨ret_parse HP.out, hb⟩
  · have hd' : digS t = false := by simpa using hd
    clear hd
    go_wp2
    go_ret2
    exact ⟨ret_parse HP.out, Below.refl _ _⟩

set_option maxRecDepth 100000 in
set_option maxHeartbeats 400000 in
theorem specParse_nonePos (s : ByteArray) (w : World) (hs : s.size ≤ 1048576) (hpos : 0 < s.size) (h45 : s[0].toNat ≠ 45) (hp : parseR s = none) :
    Calls Tryd.prog 15 #[.string s] w fun e w' => e = .returned (.tuple #[.int .i64 (pv s), .bool (pb s)]) ∧ Below w.heap.size w w' := by
  have HP := hide (pv_none hp)
  have HN : Hid (∀ n : Int, -9223372036854775808 ≤ n → n ≤ 9223372036854775807 → (Lib.itoa n == s.toList) = false) := hide fun n => none_of hp
  have h45' : ((s[0].toNat : Int) == 45) = false := by simp; omega
  clear hp h45
  go_enter Tryd.func15, Tryd.ntmps15
  go_wp2_with fail
  refine (specIsDigits_any s _ (by unfold maxLen; omega)).mono ?_
  rintro e w' ⟨rfl, rfl⟩
  by_cases hd : digS s = true
  · by_cases h19 : 19 < s.size
    · go_wp2
      go_ret2
      exact ⟨ret_parse HP.out, Below.refl _ _⟩
    · have HD := hide hd
      go_wp2
      go_loop [6, 7, 8] (fun n i _ => ∃ (k : Nat) (z : Int), k ≤ s.size ∧ i = .int .i64 k ∧ n = .int .i64 z ∧ -9223372036854775808 ≤ z ∧ z ≤ 0) (fun _ i _ => s.size - (intOf i).toNat)
      case atStart => exact ⟨0, 0, Nat.zero_le _, rfl, rfl, by omega, by omega⟩
      case round =>
        obtain ⟨k, z, hk, rfl, rfl, hz0, hz1⟩ := hrel
        by_cases hlt : k < s.size
        · obtain ⟨hd1, hd2⟩ := digS_at HD.out k hlt
          by_cases hchk : z < (-9223372036854775808 + ((s[k].toNat : Int) - 48)).tdiv 10
          · go_wp2
            go_ret2
            exact ⟨ret_parse HP.out, Below.refl _ _⟩
          · obtain ⟨hf1, hf2⟩ := chk_fits z _ hz1 hz0 hd1 hd2 hchk
            go_wp2
            go_round
            case rel => exact ⟨k + 1, _, by omega, by go_num, rfl, hf1, hf2⟩
            case measure => simp [intOf]; omega
        · by_cases hm : z = -9223372036854775808
          · have hm' : (z == -9223372036854775808) = true := by simp [hm]
            clear hm
            go_wp2
            go_ret2
            exact ⟨ret_parse HP.out, Below.refl _ _⟩
          · have hm' : (z == -9223372036854775808) = false := by simpa using hm
            have hq := HN.out (-z) (by omega) (by omega)
            have hlo : -9223372036854775807 ≤ z := by omega
            clear hm
            go_wp2_with fail
            refine (specFormat_any (-z) _ (by omega) (by omega)).mono ?_
            rintro e w' ⟨rfl, hb⟩
            go_wp2
            go_ret2
            exact ⟨ret_parse HP.out, hb⟩
  · have hd' : digS s = false := by simpa using hd
    clear hd
    go_wp2
    go_ret2
    exact ⟨ret_parse HP.out, Below.refl _ _⟩

set_option maxRecDepth 100000 in
set_option maxHeartbeats 400000 in
theorem specParse_someNeg (s : ByteArray) (w : World) (hs : s.size ≤ 1048576) (n : Int) (hpos : 0 < s.size) (h45 : s[0].toNat = 45) (hp : parseR s = some n) :
    Calls Tryd.prog 15 #[.string s] w fun e w' => e = .returned (.tuple #[.int .i64 (pv s), .bool (pb s)]) ∧ Below w.heap.size w w' := by
  obtain ⟨hit, -, -⟩ := parse_some hp
  have hq : (Lib.itoa n == s.toList) = true := by rw [ByteArray.toList_eq]; simpa using hit
  obtain ⟨m, hn, hm, htl⟩ := some_neg hp hpos h45
  have h45' : ((s[0].toNat : Int) == 45) = true := by simp [h45]
  clear h45
  obtain ⟨t, ht⟩ : ∃ t, t = s.extract 1 s.size := ⟨_, rfl⟩
  rw [← ht] at htl
  have HP := hide (pv_some hp)
  have hd := digS_list htl
  have h19 := list_size htl (by omega)
  have HV := hide (list_val htl)
  have HD := hide hd
  subst hn
  clear hp htl hit
  have HX := hide ht
  clear ht
  go_enter Tryd.func15, Tryd.ntmps15
  go_wp2_with fail
  rw [← HX.out]
  refine (specIsDigits_any t _ (by unfold maxLen; omega)).mono ?_
  rintro e w' ⟨rfl, rfl⟩
  go_wp2
  go_loop [6, 7, 8] (fun n i _ => ∃ (k v : Nat), k ≤ t.size ∧ i = .int .i64 k ∧ n = .int .i64 (-(v : Int)) ∧ decOn 0 (t.data.toList.take k) = v) (fun _ i _ => t.size - (intOf i).toNat)
  case atStart => exact ⟨0, 0, Nat.zero_le _, rfl, rfl, rfl⟩
  case round =>
    obtain ⟨k, v, hk, rfl, rfl, hv⟩ := hrel
    have HVV := hide hv
    have hvm : v ≤ m := by rw [← hv, ← HV.out]; exact decOn_take _ _
    clear hv
    by_cases hlt : k < t.size
    · obtain ⟨hd1, hd2⟩ := digS_at HD.out k hlt
      have HS := hide (decOn_snoc t k hlt)
      have hnext : (v : Int) * 10 + ((t[k].toNat : Int) - 48) ≤ 9223372036854775808 := by
        have h1 := decOn_take t.data.toList (k + 1)
        rw [HS.out, HVV.out, HV.out] at h1
        omega
      have hchk := chk_ok (v : Int) _ hd1 hd2 hnext
      go_wp2
      go_round
      case rel =>
        refine ⟨k + 1, v * 10 + (t[k].toNat - 48), by omega, by go_num, ?_, by rw [HS.out, HVV.out]⟩
        congr 1; omega
      case measure => simp [intOf]; omega
    · have hvm' : v = m := by
        have h1 := HVV.out
        rw [take_all t k (by omega), HV.out] at h1; exact h1.symm
      subst hvm'
      clear hvm
      go_wp2_with fail
      refine (specFormat_any (-(v : Int)) _ (by omega) (by omega)).mono ?_
      rintro e w' ⟨rfl, hb⟩
      go_wp2
      go_ret2
      exact ⟨ret_parse HP.out, hb⟩

set_option maxRecDepth 100000 in
set_option maxHeartbeats 400000 in
theorem specParse_somePos (s : ByteArray) (w : World) (hs : s.size ≤ 1048576) (n : Int) (h45 : ∀ hp : 0 < s.size, s[0].toNat ≠ 45) (hp : parseR s = some n) :
    Calls Tryd.prog 15 #[.string s] w fun e w' => e = .returned (.tuple #[.int .i64 (pv s), .bool (pb s)]) ∧ Below w.heap.size w w' := by
  obtain ⟨hit, -, -⟩ := parse_some hp
  have hq : (Lib.itoa n == s.toList) = true := by rw [ByteArray.toList_eq]; simpa using hit
  obtain ⟨m, hn, hm, htl⟩ := some_pos hp h45
  have HP := hide (pv_some hp)
  have hd := digS_list htl
  have h19 := list_size htl (by omega)
  have HV := hide (list_val htl)
  have HD := hide hd
  subst hn
  clear hp htl hit
  have h45' : ∀ hp : 0 < s.size, ((s[0].toNat : Int) == 45) = false := fun hp => by have := h45 hp; simp; omega
  have hpos : 0 < s.size := by
    have := HD.out; simp only [digS, Bool.and_eq_true] at this; simpa using this.1
  replace h45' := h45' hpos
  clear h45
  go_enter Tryd.func15, Tryd.ntmps15
  go_wp2_with fail
  refine (specIsDigits_any s _ (by unfold maxLen; omega)).mono ?_
  rintro e w' ⟨rfl, rfl⟩
  go_wp2
  go_loop [6, 7, 8] (fun n i _ => ∃ (k v : Nat), k ≤ s.size ∧ i = .int .i64 k ∧ n = .int .i64 (-(v : Int)) ∧ decOn 0 (s.data.toList.take k) = v) (fun _ i _ => s.size - (intOf i).toNat)
  case atStart => exact ⟨0, 0, Nat.zero_le _, rfl, rfl, rfl⟩
  case round =>
    obtain ⟨k, v, hk, rfl, rfl, hv⟩ := hrel
    have HVV := hide hv
    have hvm : v ≤ m := by rw [← hv, ← HV.out]; exact decOn_take _ _
    clear hv
    by_cases hlt : k < s.size
    · obtain ⟨hd1, hd2⟩ := digS_at HD.out k hlt
      have HS := hide (decOn_snoc s k hlt)
      have hnext : (v : Int) * 10 + ((s[k].toNat : Int) - 48) ≤ 9223372036854775808 := by
        have h1 := decOn_take s.data.toList (k + 1)
        rw [HS.out, HVV.out, HV.out] at h1
        omega
      have hchk := chk_ok (v : Int) _ hd1 hd2 hnext
      go_wp2
      go_round
      case rel =>
        refine ⟨k + 1, v * 10 + (s[k].toNat - 48), by omega, by go_num, ?_, by rw [HS.out, HVV.out]⟩
        congr 1; omega
      case measure => simp [intOf]; omega
    · have hvm' : v = m := by
        have h1 := HVV.out
        rw [take_all s k (by omega), HV.out] at h1; exact h1.symm
      subst hvm'
      clear hvm
      have hmin : (-(v : Int) == -9223372036854775808) = false := by simp; omega
      go_wp2_with fail
      refine (specFormat_any (v : Int) _ (by omega) (by omega)).mono ?_
      rintro e w' ⟨rfl, hb⟩
      go_wp2
      go_ret2
      exact ⟨ret_parse HP.out, hb⟩

set_option maxRecDepth 100000 in
set_option maxHeartbeats 400000 in
theorem specParse_empty (s : ByteArray) (w : World) (_hs : s.size ≤ 1048576) (h0 : s.size = 0) (hp : parseR s = none) :
    Calls Tryd.prog 15 #[.string s] w fun e w' => e = .returned (.tuple #[.int .i64 (pv s), .bool (pb s)]) ∧ Below w.heap.size w w' := by
  have HP := hide (pv_none hp)
  have hd : digS s = false := by simp [digS, h0]
  clear hp
  go_enter Tryd.func15, Tryd.ntmps15
  go_wp2_with fail
  refine (specIsDigits_any s _ (by unfold maxLen; omega)).mono ?_
  rintro e w' ⟨rfl, rfl⟩
  go_wp2
  go_ret2
  exact ⟨ret_parse HP.out, Below.refl _ _⟩

set_option maxRecDepth 100000 in
set_option maxHeartbeats 400000 in
theorem specParse_any (s : ByteArray) (w : World) (hs : s.size ≤ 1048576)  :
    Calls Tryd.prog 15 #[.string s] w fun e w' => e = .returned (.tuple #[.int .i64 (pv s), .bool (pb s)]) ∧ Below w.heap.size w w' := by
  cases hp : parseR s with
  | none =>
    by_cases h0 : s.size = 0
    · exact specParse_empty s w hs h0 hp
    · by_cases h45 : (s[0]'(by omega)).toNat = 45
      · exact specParse_noneNeg s w hs (by omega) h45 hp
      · exact specParse_nonePos s w hs (by omega) h45 hp
  | some n =>
    by_cases h45 : ∀ hp : 0 < s.size, s[0].toNat ≠ 45
    · exact specParse_somePos s w hs n h45 hp
    · obtain ⟨hpos, h45⟩ : ∃ hp : 0 < s.size, s[0].toNat = 45 := by
        rcases Classical.not_forall.1 h45 with ⟨hp, h⟩
        exact ⟨hp, Classical.not_not.1 h⟩
      exact specParse_someNeg s w hs n hpos h45 hp

set_option maxHeartbeats 400000 in
theorem lawParseInt_walk (s : ByteArray) (w : World) (_hs : s.size ≤ maxLen) (hl : Lib.TabIs Tryd.prog w "internal/strconv.uint64pow10" .u64 Lib.pow10Tab ∧ SentIs w "strconv.ErrSyntax" ∧ SentIs w "strconv.ErrRange") :
    Calls Tryd.prog 5 #[.string s] w fun e w' => e = .returned (.bool true) ∧ Below w.heap.size w w' := by
  have HL := hide hl
  clear hl
  by_cases h1 : 1048576 < s.size
  · go_enter Tryd.func5, Tryd.ntmps5
    go_wp2
    go_ret
    exact ⟨rfl, Below.refl _ _⟩
  · go_enter Tryd.func5, Tryd.ntmps5
    go_wp2_with fail
    refine (specParse_any s _ (by omega)).mono ?_
    rintro e w1 ⟨rfl, hb1⟩
    have HB1 := hide hb1
    clear hb1
    go_wp2_with fail
    refine (implParse_any s _ (by omega) (tab_below HL.out.1 HB1.out) (sent_below HL.out.2.1 HB1.out) (sent_below HL.out.2.2 HB1.out)).mono ?_
    rintro e w2 ⟨rfl, hb2⟩
    have HB2 := hide (HB1.out.trans (hb2.mono HB1.out.size))
    clear hb2
    go_wp2
    go_ret
    exact ⟨rfl, HB2.out⟩
end Go.Proofs.YtfdcfjlndijhlaaDoor
