/-
  Join, of the model and of the program, and the exact law, walked.
-/
import Derived.Test.YtfdcfjlndijhlaaStrs
import Derived.Test.YtfdcfjlndijhlaaShJoin
namespace Go.Proofs.Ytfdcfjlndijhlaa
open Go.RowKit

def joinL (ss : List ByteArray) (sep : ByteArray) : List UInt8 := Lib.join (ss.map (·.data.toList)) sep.data.toList
def joinB (ss : List ByteArray) (sep : ByteArray) : ByteArray := ⟨(joinL ss sep).toArray⟩
theorem joinTail_snoc (sep : List UInt8) (r : List (List UInt8)) (y : List UInt8) : Lib.joinTail sep (r ++ [y]) = Lib.joinTail sep r ++ sep ++ y := by
  simp [Lib.joinTail, List.append_assoc]
theorem join_first (ss : List ByteArray) (sep : ByteArray) (h : 0 < ss.length) : joinL (ss.take 1) sep = ss[0].data.toList := by
  rw [List.take_succ_eq_append_getElem h]; simp [joinL, Lib.join_one]
theorem join_next (ss : List ByteArray) (sep : ByteArray) (k : Nat) (h : k < ss.length) (h0 : 0 < k) : joinL (ss.take (k + 1)) sep = joinL (ss.take k) sep ++ sep.data.toList ++ ss[k].data.toList := by
  rw [List.take_succ_eq_append_getElem h, joinL, List.map_append]
  cases hh : ss.take k with
  | nil => rw [← List.length_eq_zero_iff, List.length_take] at hh; omega
  | cons x r =>
    simp only [joinL, List.map_cons, List.map_nil, List.cons_append, Lib.join_cons, joinTail_snoc, List.append_assoc]
theorem join_le (ss : List ByteArray) (sep : ByteArray) : (joinL ss sep).length ≤ sep.size * ss.length + total ss := by
  cases ss with
  | nil => simp [joinL, Lib.join_nil]
  | cons x r =>
    rw [joinL, List.map_cons, Lib.join_length]
    have e : Lib.lens (x.data.toList :: r.map (·.data.toList)) = total (x :: r) := by
      rw [← List.map_cons (f := fun y : ByteArray => y.data.toList)]
      simp only [Lib.lens, total, List.map_map]; congr 1
    rw [e]
    have : sep.data.toList.length = sep.size := by simp
    simp only [List.length_map, List.length_cons, this, Nat.mul_add]; omega
theorem total_take (ss : List ByteArray) (k : Nat) : total (ss.take k) ≤ total ss := by
  have h : ss = ss.take k ++ ss.drop k := (List.take_append_drop k ss).symm
  have : total ss = total (ss.take k) + total (ss.drop k) := by
    conv => lhs; rw [h]
    simp only [total, List.map_append, List.sum_append]
  omega

theorem app_data (a b : ByteArray) : (a ++ b).data.toList = a.data.toList ++ b.data.toList := by simp
theorem eq_of_data {a : ByteArray} {l : List UInt8} (h : a.data.toList = l) : a = ⟨l.toArray⟩ := by subst h; rfl
set_option maxHeartbeats 400000 in
theorem specJoin_any (ss : List ByteArray) (v : Value) (base : Nat) (sep : ByteArray) (w : World) (hsep : sep.size ≤ 1048576) (hsz : ss.length + total ss ≤ 1048576) (hv : w.ownsRow base 9 1 v ss.length (ss.map .string)) :
    Calls Try.prog 21 #[v, .string sep] w fun e w' => e = .returned (.string (joinB ss sep)) ∧ w = w' := by
  by_cases h0 : ss.length = 0
  · have hss : ss = [] := List.eq_nil_of_length_eq_zero h0
    subst hss
    obtain ⟨a, ca, rfl⟩ := own_none hv
    clear hv h0 hsz
    go_enter Try.func21, Try.ntmps21
    go_wp2
    go_loop [5, 6, 7, 10] (fun t _ _ i => i = .int .i64 0 ∧ t = .string ⟨#[]⟩) (fun _ _ _ _ => 0)
    case atStart => exact ⟨rfl, rfl⟩
    case round =>
      obtain ⟨rfl, rfl⟩ := hrel
      go_wp2
      go_ret
      exact ⟨rfl, rfl⟩
  · obtain ⟨g, c, rfl, -, hg, hc, hm, hcell, -⟩ := own_some hv (by omega)
    have HC := hide hcell
    clear hv hcell
    unfold maxLen at hm
    go_enter Try.func21, Try.ntmps21
    go_wp2
    go_loop [5, 6, 7, 10] (fun t _ _ i => ∃ (k : Nat) (b : ByteArray), k ≤ ss.length ∧ i = .int .i64 k ∧ t = .string b ∧ b.data.toList = joinL (ss.take k) sep) (fun _ _ _ i => ss.length - (intOf i).toNat)
    case atStart => exact ⟨0, _, Nat.zero_le _, rfl, rfl, by simp [joinL, Lib.join_nil]⟩
    case round =>
      obtain ⟨k, b, hk, rfl, rfl, hj⟩ := hrel
      have HJ := hide hj
      clear hj
      have hbs : b.size ≤ 1048576 * 1048576 + 1048576 := by
        have h1 := join_le (ss.take k) sep
        have h2 := total_take ss k
        have h3 : b.size = (joinL (ss.take k) sep).length := by rw [← HJ.out]; simp
        have h4 : sep.size * (ss.take k).length ≤ 1048576 * 1048576 := Nat.mul_le_mul hsep (by simp; omega)
        omega
      by_cases hlt : k < ss.length
      · have hx : w.cell? ⟨g, k, none⟩ = some (.string ss[k]) := by rw [HC.out k hlt]; simp [hlt]
        have hys : ss[k].size ≤ 1048576 := by have := total_snoc ss k hlt; have := total_take ss (k + 1); omega
        by_cases hk0 : k = 0
        · subst hk0
          have HF := hide (join_first ss sep hlt)
          go_wp2
          go_round
          case rel => exact ⟨1, _, by omega, by go_num, rfl, by rw [app_data, HJ.out, HF.out]; simp [joinL, Lib.join_nil]⟩
          case measure => simp [intOf]; omega
        · have HN := hide (join_next ss sep k hlt (by omega))
          go_wp2
          go_round
          case rel => exact ⟨k + 1, _, by omega, by go_num, rfl, by rw [app_data, app_data, HJ.out, HN.out]⟩
          case measure => simp [intOf]; omega
      · have HA : Hid (joinL (ss.take k) sep = joinL ss sep) := hide (by rw [List.take_of_length_le (by omega)])
        go_wp2
        go_ret
        exact ⟨ret_string (eq_of_data (by rw [HJ.out, HA.out])), rfl⟩

set_option maxHeartbeats 400000 in
theorem joinAll_any (ss : List ByteArray) (v : Value) (base : Nat) (sep : ByteArray) (w : World) (hsep : sep.size ≤ 1048576) (hsz : ss.length + total ss ≤ 1048576) (hv : w.ownsRow base 9 1 v ss.length (ss.map .string)) :
    Calls Try.prog 30 #[.string sep, v] w fun e w' => e = .returned (.string (joinB ss sep)) ∧ Below w.heap.size w w' := by
  have hle := join_le ss sep
  have hm : sep.size * ss.length ≤ 1048576 * 1048576 := Nat.mul_le_mul hsep (by omega)
  by_cases h0 : ss.length = 0
  · have hss : ss = [] := List.eq_nil_of_length_eq_zero h0
    subst hss
    obtain ⟨a, ca, rfl⟩ := own_none hv
    clear hv h0 hsz hle hm
    go_enter Try.func30, Try.ntmps30
    go_wp2_with fail
    refine (Try.strings_Join_none _ _ sep _).mono ?_
    rintro e w' ⟨rfl, rfl⟩
    go_wp2
    go_ret
    exact ⟨ret_string (by simp [joinB, joinL, Lib.join_nil]), Below.refl _ _⟩
  · obtain ⟨g, c, rfl, -, hg, hc, hm, hcell, -⟩ := own_some hv (by omega)
    have HC := hide hcell
    clear hv hcell
    have hle := hide hle
    go_enter Try.func30, Try.ntmps30
    go_wp2_with fail
    refine (Try.strings_Join g 0 c ss sep _ (fun j x hx => ?_) hg (by omega) hc (by have := hle.out; rw [joinL] at this; omega)).mono ?_
    · have hj : j < ss.length := (List.getElem?_eq_some_iff.1 hx).1
      rw [Nat.zero_add, HC.out j hj, List.getElem?_map, hx]; rfl
    rintro e w' ⟨rfl, hb⟩
    go_wp2
    go_ret
    exact ⟨rfl, hb⟩

set_option maxHeartbeats 400000 in
theorem implJoin_any (ss : List ByteArray) (v : Value) (base : Nat) (sep : ByteArray) (w : World) (hsep : sep.size ≤ 1048576) (hsz : ss.length + total ss ≤ 1048576) (hv : w.ownsRow base 9 1 v ss.length (ss.map .string)) :
    Calls Try.prog 23 #[v, .string sep] w fun e w' => e = .returned (.string (joinB ss sep)) ∧ Below w.heap.size w w' := by
  go_enter Try.func23, Try.ntmps23
  go_wp2_with fail
  refine (joinAll_any ss v base sep _ hsep hsz hv).mono ?_
  rintro e w' ⟨rfl, hb⟩
  go_wp2
  go_ret
  exact ⟨rfl, hb⟩

theorem inStr_below {w w' : World} {a : Option Addr} {n : Nat} {ss : List ByteArray} (h : InStr w a n ss) (hb : Below w.heap.size w w') : InStr w' a n ss := by
  refine ⟨h.1, h.2.1, h.2.2.1, ?_⟩
  rcases h.2.2.2 with h0 | ⟨g, o, ha, hg, hc⟩
  · exact .inl h0
  · exact .inr ⟨g, o, ha, Nat.lt_of_lt_of_le hg hb.size, fun i hi => below_cell hb hg (hc i hi)⟩

set_option maxHeartbeats 400000 in
theorem lawJoin_walk (a : Option Addr) (n c : Nat) (ss : List ByteArray) (sep : ByteArray) (w : World) (hin : InStr w a n ss) (_hsep : sep.size ≤ maxLen) :
    Calls Try.prog 7 #[.slice a n c, .string sep] w fun e w' => e = .returned (.bool true) ∧ Below w.heap.size w w' := by
  have HI := hide hin
  clear hin
  by_cases h1 : 1048576 < sep.size
  · go_enter Try.func7, Try.ntmps7
    go_wp2
    go_ret
    exact ⟨rfl, Below.refl _ _⟩
  · go_enter Try.func7, Try.ntmps7
    go_wp2_with fail
    refine (szStringS_any a n c ss 1048576 _ (by omega) HI.out).mono ?_
    rintro e w1 ⟨r, rfl, hr, hb1⟩
    have HB1 := hide hb1; have HR := hide hr
    clear hb1 hr
    by_cases hneg : r < 0
    · go_wp2
      go_ret
      exact ⟨rfl, HB1.out⟩
    · have hfit := HR.out (by omega)
      have hsz : ss.length + total ss ≤ 1048576 := by rw [HI.out.1]; exact hfit
      go_wp2_with fail
      refine (toStringS_any a n c ss _ (by omega) (inStr_below HI.out HB1.out)).mono ?_
      rintro e w2 ⟨v2, rfl, ho2, hb2⟩
      have HO2 := hide ho2; have HB2 := hide (HB1.out.trans (hb2.mono HB1.out.size)); clear ho2 hb2
      go_wp2_with fail
      refine (specJoin_any ss v2 _ sep _ (by omega) hsz HO2.out).mono ?_
      rintro e w3 ⟨rfl, rfl⟩
      go_wp2_with fail
      refine (toStringS_any a n c ss _ (by omega) (inStr_below HI.out HB2.out)).mono ?_
      rintro e w4 ⟨v4, rfl, ho4, hb4⟩
      have HO4 := hide ho4; have HB4 := hide (HB2.out.trans (hb4.mono HB2.out.size)); clear ho4 hb4
      go_wp2_with fail
      refine (implJoin_any ss v4 _ sep _ (by omega) hsz HO4.out).mono ?_
      rintro e w5 ⟨rfl, hb5⟩
      have HO5 := hide (own_below HO4.out hb5); have HB5 := hide (HB4.out.trans (hb5.mono HB4.out.size)); clear hb5
      go_wp2_with fail
      refine (toStringS_any a n c ss _ (by omega) (inStr_below HI.out HB5.out)).mono ?_
      rintro e w6 ⟨v6, rfl, ho6, hb6⟩
      have HO6 := hide ho6; have HO56 := hide (own_below HO5.out hb6); have HB6 := hide (HB5.out.trans (hb6.mono HB5.out.size)); clear ho6 hb6
      go_wp2_with fail
      refine (eqStringS_same ss v4 v6 _ _ _ (by omega) HO56.out HO6.out).mono ?_
      rintro e w7 ⟨rfl, hb7⟩
      have HB7 := hide (HB6.out.trans (hb7.mono HB6.out.size)); clear hb7
      go_wp2
      go_ret
      exact ⟨rfl, HB7.out⟩
end Go.Proofs.Ytfdcfjlndijhlaa
