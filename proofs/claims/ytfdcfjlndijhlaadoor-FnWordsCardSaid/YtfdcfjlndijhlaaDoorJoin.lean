/-
  Join, of the model and of the program, and the exact law, walked.
-/
import Derived.Test.YtfdcfjlndijhlaaDoorStrs
import Derived.Test.YtfdcfjlndijhlaaDoorShJoin
namespace Go.Proofs.YtfdcfjlndijhlaaDoor
open Go.RowKit

def joinL (ss : List ByteArray) (sep : ByteArray) : List UInt8 := Lib.join (ss.map (·.data.toList)) sep.data.toList
def joinB (ss : List ByteArray) (sep : ByteArray) : ByteArray := ⟨(joinL ss sep).toArray⟩
theorem joinTail_snoc (sep : List UInt8) (r : List (List UInt8)) (y : List UInt8) : Lib.joinTail sep (r ++ [y]) = Lib.joinTail sep r ++ sep ++ y := by
  simp [Lib.joinTail, List.append_assoc]
theorem join_first (ss : List ByteArray) (sep : ByteArray) (h : 0 < ss.length) : joinL (ss.take 1) sep = ss[0].data.toList := by
  rw [List.take_succ_eq_append_getElem h]; simp [joinL, Lib.join_one]
theorem join_next (ss : List ByteArray) (sep : ByteArray) (k : Nat) (h : k < ss.length) (h0 : 0 < k) : joinL (ss.take (k + 1)) sep = joinL (ss.take k) sep ++ sep.data.toList ++ ss[k].data.toList := by
  rw [List.take_succ_eq_append_getElem h, joinL, List.map_append]
  cases hh : ss.take k with
  | nil => rw [← List.length_eq_zero_iff, List.length_take] at hh; omega
  | cons x r =>
    simp only [joinL, List.map_cons, List.map_nil, List.cons_append, Lib.join_cons, joinTail_snoc, List.append_assoc]
theorem join_le (ss : List ByteArray) (sep : ByteArray) : (joinL ss sep).length ≤ sep.size * ss.length + total ss := by
  cases ss with
  | nil => simp [joinL, Lib.join_nil]
  | cons x r =>
    rw [joinL, List.map_cons, Lib.join_length]
    have e : Lib.lens (x.data.toList :: r.map (·.data.toList)) = total (x :: r) := by
      rw [← List.map_cons (f := fun y : ByteArray => y.data.toList)]
      simp only [Lib.lens, total, List.map_map]; congr 1
    rw [e]
    have : sep.data.toList.length = sep.size := by simp
    simp only [List.length_map, List.length_cons, this, Nat.mul_add]; omega
theorem total_take (ss : List ByteArray) (k : Nat) : total (ss.take k) ≤ total ss := by
  have h : ss = ss.take k ++ ss.drop k := (List.take_append_drop k ss).symm
  have : total ss = total (ss.take k) + total (ss.drop k) := by
    conv => lhs; rw [h]
    simp only [total, List.map_append, List.sum_append]
  omega

theorem app_data (a b : ByteArray) : (a ++ b).data.toList = a.data.toList ++ b.data.toList := by simp
theorem eq_of_data {a : ByteArray} {l : List UInt8} (h : a.data.toList = l) : a = ⟨l.toArray⟩ := by subst h; rfl
set_option maxHeartbeats 400000 in
theorem joinAll_any (ss : List ByteArray) (v : Value) (base : Nat) (sep : ByteArray) (w : World) (hsep : sep.size ≤ 1048576) (hsz : ss.length + total ss ≤ 1048576) (hv : w.ownsRow base 9 1 v ss.length (ss.map .string)) :
    Calls Tryd.prog 23 #[.string sep, v] w fun e w' => e = .returned (.string (joinB ss sep)) ∧ Below w.heap.size w w' := by
  have hle := join_le ss sep
  have hm : sep.size * ss.length ≤ 1048576 * 1048576 := Nat.mul_le_mul hsep (by omega)
  by_cases h0 : ss.length = 0
  · have hss : ss = [] := List.eq_nil_of_length_eq_zero h0
    subst hss
    obtain ⟨a, ca, rfl⟩ := own_none hv
    clear hv h0 hsz hle hm
    go_enter Tryd.func23, Tryd.ntmps23
    go_wp2_with fail
    refine (Tryd.strings_Join_none _ _ sep _).mono ?_
    rintro e w' ⟨rfl, rfl⟩
    go_wp2
    go_ret
    exact ⟨ret_string (by simp [joinB, joinL, Lib.join_nil]), Below.refl _ _⟩
  · obtain ⟨g, c, rfl, -, hg, hc, hm, hcell, -⟩ := own_some hv (by omega)
    have HC := hide hcell
    clear hv hcell
    have hle := hide hle
    go_enter Tryd.func23, Tryd.ntmps23
    go_wp2_with fail
    refine (Tryd.strings_Join g 0 c ss sep _ (fun j x hx => ?_) hg (by omega) hc (by have := hle.out; rw [joinL] at this; omega)).mono ?_
    · have hj : j < ss.length := (List.getElem?_eq_some_iff.1 hx).1
      rw [Nat.zero_add, HC.out j hj, List.getElem?_map, hx]; rfl
    rintro e w' ⟨rfl, hb⟩
    go_wp2
    go_ret
    exact ⟨rfl, hb⟩

set_option maxHeartbeats 400000 in
theorem implJoin_any (ss : List ByteArray) (v : Value) (base : Nat) (sep : ByteArray) (w : World) (hsep : sep.size ≤ 1048576) (hsz : ss.length + total ss ≤ 1048576) (hv : w.ownsRow base 9 1 v ss.length (ss.map .string)) :
    Calls Tryd.prog 10 #[v, .string sep] w fun e w' => e = .returned (.string (joinB ss sep)) ∧ Below w.heap.size w w' := by
  go_enter Tryd.func10, Tryd.ntmps10
  go_wp2_with fail
  refine (joinAll_any ss v base sep _ hsep hsz hv).mono ?_
  rintro e w' ⟨rfl, hb⟩
  go_wp2
  go_ret
  exact ⟨rfl, hb⟩

theorem inStr_below {w w' : World} {a : Option Addr} {n : Nat} {ss : List ByteArray} (h : InStr w a n ss) (hb : Below w.heap.size w w') : InStr w' a n ss := by
  refine ⟨h.1, h.2.1, h.2.2.1, ?_⟩
  rcases h.2.2.2 with h0 | ⟨g, o, ha, hg, hc⟩
  · exact .inl h0
  · exact .inr ⟨g, o, ha, Nat.lt_of_lt_of_le hg hb.size, fun i hi => below_cell hb hg (hc i hi)⟩

end Go.Proofs.YtfdcfjlndijhlaaDoor
