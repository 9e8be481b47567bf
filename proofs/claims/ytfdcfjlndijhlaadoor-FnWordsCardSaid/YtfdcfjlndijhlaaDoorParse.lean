/-
  ParseInt of the program: the number that the string is the numeral of.
-/
import Derived.Test.YtfdcfjlndijhlaaDoorNum
import Derived.Test.YtfdcfjlndijhlaaDoorShAtoi
import Derived.Stop.LaidErr
namespace Go.Proofs.YtfdcfjlndijhlaaDoor
open Go.RowKit

def pv (s : ByteArray) : Int := (parseR s).getD 0
def pb (s : ByteArray) : Bool := (parseR s).isSome
theorem pv_some {s : ByteArray} {n : Int} (h : parseR s = some n) : pv s = n ∧ pb s = true := by simp [pv, pb, h]
theorem pv_none {s : ByteArray} (h : parseR s = none) : pv s = 0 ∧ pb s = false := by simp [pv, pb, h]
theorem ret_parse {n : Int} {b : Bool} {s : ByteArray} (h : pv s = n ∧ pb s = b) : Ending.returned (.tuple #[.int .i64 n, .bool b]) = .returned (.tuple #[.int .i64 (pv s), .bool (pb s)]) := by rw [h.1, h.2]
theorem ok_yes {s : ByteArray} {v : Int} (h : Lib.atoiAll s.data.toList = .ok v) (e : Lib.itoa v = s.data.toList) : parseR s = some v := by simp [parseR, h, e]
theorem ok_no {s : ByteArray} {v : Int} (h : Lib.atoiAll s.data.toList = .ok v) (e : Lib.itoa v ≠ s.data.toList) : parseR s = none := by simp [parseR, h, e]
theorem err_syntax {s : ByteArray} (h : Lib.atoiAll s.data.toList = Lib.atoiAll []) : parseR s = none := by rw [parseR, h]; rfl
theorem err_range {s : ByteArray} (h : Lib.atoiAll s.data.toList = .range) : parseR s = none := by simp [parseR, h]

/-- The variable holds an error. -/
def SentIs (w : World) (n : String) : Prop := ∃ tp p, w.var? Tryd.prog n = some #[.iface tp p]
theorem star_err : "*" ++ "errors.errorString" = "*errors.errorString" := by decide
theorem row_err (u : TypeId) (h : Tryd.prog.typeName? 3 u = some "*errors.errorString") : u = 78 :=
  typeName_ptr_named (nm := "errors.errorString") (by rw [star_err]; kernel_rfl) (by kernel_rfl) (by decide) u (by rw [star_err]; exact h)
/-- A variable that is listed as an error of errors.New holds one. -/
theorem sent_of {n : String} {text : List UInt8} {r : List (String × DataW Unit)} {W : World} {g : Nat} (h : laidMet Tryd.prog ((n, .iface "*errors.errorString" (.ptr (.agg [.lit (.string text)]))) :: r) W)
    (hg : Tryd.prog.globalNamed n = some g) (ht : (Tryd.prog.globals[g]?).map (·.type) = some 39) : SentIs W n := by
  obtain ⟨a, s, hv, -, -, -⟩ := laid_sentinel h hg ht Tryd.underlying39 row_err Tryd.underlying78 Tryd.underlying80 rfl rfl Tryd.underlying9 (by kernel_rfl) (by kernel_rfl)
  exact ⟨_, _, hv⟩
theorem sent_below {w w' : World} {n : String} (h : SentIs w n) (hb : Below w.heap.size w w') : SentIs w' n := by
  obtain ⟨tp, p, h⟩ := h
  exact ⟨tp, p, var_below h hb⟩
theorem bytes_below (w : World) (t : ByteArray) : Below w.heap.size w (Lib.bytesWorld w 5 t) := by
  refine ⟨rfl, rfl, rfl, by rw [Lib.bytesWorld_size]; omega, fun k hk => Lib.bytesWorld_at_old w _ t k hk⟩

set_option maxHeartbeats 400000 in
theorem implParse_any (s : ByteArray) (w : World) (hs : s.size ≤ 1048576) (htab : Lib.TabIs Tryd.prog w "internal/strconv.uint64pow10" .u64 Lib.pow10Tab) (hsy : SentIs w "strconv.ErrSyntax") (hra : SentIs w "strconv.ErrRange") :
    Calls Tryd.prog 7 #[.string s] w fun e w' => e = .returned (.tuple #[.int .i64 (pv s), .bool (pb s)]) ∧ Below w.heap.size w w' := by
  have HT := hide htab
  clear htab
  rcases ha : Lib.atoiAll s.data.toList with v | _ | _
  · have hbd := Lib.atoiAll_bounds ha
    have HBD := hide hbd
    clear hbd hsy hra
    go_enter Tryd.func7, Tryd.ntmps7
    have HA := hide ha
    clear ha
    go_wp2_with fail
    refine (Tryd.strconv_Atoi_ok s (by omega) v HA.out _).mono ?_
    rintro e w1 ⟨rfl, hw⟩
    have HB : Hid (Below w.heap.size w w1) := hide (by
      rcases hw with rfl | ⟨t, rfl⟩
      · exact Below.refl _ _
      · exact bytes_below w t)
    clear hw
    go_wp2_with fail
    refine (implFormat_any v _ HBD.out.1 HBD.out.2 (tab_below HT.out HB.out)).mono ?_
    rintro e w2 ⟨rfl, hb2⟩
    have HB2 := hide (HB.out.trans (hb2.mono HB.out.size))
    clear hb2
    by_cases hq : Lib.itoa v = s.data.toList
    · have HP := hide (pv_some (ok_yes HA.out hq))
      have heq : (Lib.itoa v == s.toList) = true := by rw [ByteArray.toList_eq]; simpa using hq
      clear hq
      go_wp2
      go_ret2
      exact ⟨ret_parse HP.out, HB2.out⟩
    · have HP := hide (pv_none (ok_no HA.out hq))
      have heq : (Lib.itoa v == s.toList) = false := by rw [ByteArray.toList_eq]; simpa using hq
      clear hq
      go_wp2
      go_ret2
      exact ⟨ret_parse HP.out, HB2.out⟩
  · obtain ⟨tp, p, hv⟩ := hsy
    have HP := hide (pv_none (err_syntax ha))
    have HA := hide ha; have HV := hide hv
    clear ha hv hra
    go_enter Tryd.func7, Tryd.ntmps7
    go_wp2_with fail
    refine (Tryd.strconv_Atoi_syntax_var s (by omega) HA.out tp p _ HV.out).mono ?_
    rintro e w1 ⟨N, rfl, -, -, hb⟩
    have HB := hide hb
    clear hb
    go_wp2
    go_ret2
    exact ⟨ret_parse HP.out, HB.out⟩
  · obtain ⟨tp, p, hv⟩ := hra
    have HP := hide (pv_none (err_range ha))
    have HA := hide ha; have HV := hide hv
    clear ha hv hsy
    go_enter Tryd.func7, Tryd.ntmps7
    go_wp2_with fail
    refine (Tryd.strconv_Atoi_range_var s (by omega) HA.out tp p _ HV.out).mono ?_
    rintro e w1 ⟨N, rfl, -, -, hb⟩
    have HB := hide hb
    clear hb
    go_wp2
    go_ret2
    exact ⟨ret_parse HP.out, HB.out⟩
end Go.Proofs.YtfdcfjlndijhlaaDoor
