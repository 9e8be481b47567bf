/-
  PutCell and DistanceOf of the program.
-/
import Derived.Test.YtcpcplggoogpeaaImpl
namespace Go.Proofs.Ytcpcplggoogpeaa
open Go.RowKit

/-- The whole variable is read, behind a guard that says yes. -/
theorem wpList_loadVecG {P : Program} {ops : Array Oper} {rest : List Oper} {o : Oper} {a : Act} {Q : Exit → Act → World → Prop} {W : World} {g n m : Nat} {T T' e : TypeId} {F : Nat → Int} (hb : Blk W g T n F) (d : Tmp) (_hd : o.dst = some d)
    (hw : Region.wanted o (yielded ops a.tmps) = true) (x : Operand) (ho : o.op = .load T' x) (hx : a.eval x = .pointer (some ⟨g, 0, none⟩)) (hu : P.underlying T' = some (.array m e)) (hi : (P.info? T').map (·.size) = some n)
    (h : wpList P ops Q rest (a.put o.dst (.agg (vec n F))) W) : wpList P ops Q (o :: rest) a W :=
  BigFrame.wpList_want hw fun K hK => wp_load_row T' x ho g hx T (vec n F) (0, 0) _ hb hu rfl (by rw [hi, vec_size]) (hK _ _ h)

/-- The call answers a list of lists of its own, and a bool. -/
def MatRes2 (rows : List (List Int)) (b : Bool) (w : World) (e : Ending) (w' : World) : Prop := ∃ v, e = .returned (.tuple #[v, .bool b]) ∧ OwnMat w' w.heap.size w'.heap.size v rows ∧ Below w.heap.size w w'
theorem matRes2_nil {w w' : World} (h : Below w.heap.size w w') : MatRes2 [] false w (.returned (.tuple #[.slice none 0 0, .bool false])) w' := ⟨_, rfl, ownMat_nil _ _ _, h⟩
/-- The image with another cell. -/
def putM (f : Nat → Nat → Int) (a b : Nat) (c : Int) (y x : Nat) : Int := if y = a ∧ x = b then c else f y x
theorem img_put {R C : Nat} {f : Nat → Nat → Int} (h : Img R C f) (a b : Nat) {c : Int} (hc : c = 0 ∨ c = 1) : Img R C (putM f a b c) := ⟨h.r1, h.r2, h.c1, h.c2, fun y x hy hx => by
  unfold putM; split
  · exact hc
  · exact h.cell y x hy hx⟩
theorem imgF_put (R C : Nat) (f : Nat → Nat → Int) (a b : Nat) (c : Int) (ha : a < R) (hb : b < C) (hC : C ≤ 5) : ∀ i, i < 25 → (if i = 5 * a + b then c else imgF R C f i) = imgF R C (putM f a b c) i := fun i hi => by
  simp only [imgF, putM]
  by_cases e : i = 5 * a + b
  · subst e
    rw [if_pos rfl, if_pos (by omega), if_pos (by omega)]
  · rw [if_neg e]
    by_cases h : i / 5 < R ∧ i % 5 < C
    · rw [if_pos h, if_pos h, if_neg (by omega)]
    · rw [if_neg h, if_neg h]

set_option maxHeartbeats 400000 in
theorem implPutCell_no (v : Value) (m : List (List Int)) (y x c : Int) (w : World) (hin : InMat w v m) (h : okB m = false) :
    Calls Try.prog 35 #[v, .int .i64 y, .int .i64 x, .int .i64 c] w (MatRes2 [] false w) := by
  have HI := hide hin; have H := hide h
  clear hin h
  go_enter Try.func35, Try.ntmps35
  go_wp2_with fail
  refine (imageOf_no v m _ HI.out H.out).mono ?_
  rintro e w1 ⟨rfl, b1⟩
  have B1 := hide b1
  clear b1
  go_wp2_with (first | (with_reducible refine wpList_allocVec 25 10 rfl rfl rfl Try.zeroImg ?_; intro wa ha ba sa) | (with_reducible refine wpList_storeVec ha rfl (.tmp 10) (.tmp 15) rfl rfl rfl Try.sizeImg ?_; intro wb hb gb sb) | (with_reducible refine wpList_loadVec hb 99 rfl rfl _ rfl rfl Try.underlying48 Try.sizeImg ?_))
  go_ret2
  exact matRes2_nil (B1.out.trans ((ba.mono B1.out.size).trans (grown_below gb (fun k hk => by cases hk; exact B1.out.size) (by have := B1.out.size; omega))))

set_option maxHeartbeats 1000000 in
theorem implPutCell_out (v : Value) (R C : Nat) (f : Nat → Nat → Int) (y x c : Int) (w : World) (hin : InMat w v (mkM R C f)) (hI : Img R C f) (h : ¬ (0 ≤ y ∧ y < R ∧ 0 ≤ x ∧ x < C)) :
    Calls Try.prog 35 #[v, .int .i64 y, .int .i64 x, .int .i64 c] w (MatRes2 [] false w) := by
  have HI := hide hin; have H := hide hI
  have HAT : Hid (atM R C f y x = -1) := hide (by rw [atM, if_neg h])
  clear hin hI h
  go_enter Try.func35, Try.ntmps35
  go_wp2_with fail
  refine (imageOf_yes v R C f _ HI.out H.out).mono ?_
  rintro e w1 ⟨rfl, b1⟩
  have B1 := hide b1
  clear b1
  go_wp2_with (first | (with_reducible refine wpList_allocVec 25 10 rfl rfl rfl Try.zeroImg ?_; intro wa ha ba sa) | (with_reducible refine wpList_storeVec ha rfl (.tmp 10) (.tmp 15) rfl rfl rfl Try.sizeImg ?_; intro wb hb gb sb) | (with_reducible refine wpList_loadVec hb 99 rfl rfl _ rfl rfl Try.underlying48 Try.sizeImg ?_) | (refine wpList_loadVecG hb 20 rfl (by rfl) (.tmp 10) rfl rfl Try.underlying48 Try.sizeImg ?_) | (with_reducible refine (cell_img R C f y x _ H.out).mono ?_; rw [HAT.out]; rintro e w3 ⟨rfl, b3⟩))
  go_ret2
  have B2 := B1.out.trans ((ba.mono B1.out.size).trans (grown_below gb (fun k hk => by cases hk; exact B1.out.size) (by have := B1.out.size; omega)))
  exact matRes2_nil (B2.trans (b3.mono B2.size))
set_option maxHeartbeats 1000000 in
theorem implPutCell_color (v : Value) (R C : Nat) (f : Nat → Nat → Int) (y x : Nat) (c : Int) (w : World) (hin : InMat w v (mkM R C f)) (hI : Img R C f) (hy : y < R) (hx : x < C) (hc : cellOk c = false) :
    Calls Try.prog 35 #[v, .int .i64 y, .int .i64 x, .int .i64 c] w (MatRes2 [] false w) := by
  have HI := hide hin; have H := hide hI; have HCC := hide hc
  have HAT : Hid (atM R C f y x = f y x) := hide (by rw [atM, if_pos (by omega)]; rfl)
  have hf : (f y x == -1) = false := by rcases hI.cell y x hy hx with e | e <;> rw [e] <;> rfl
  clear hin hI hc
  go_enter Try.func35, Try.ntmps35
  go_wp2_with fail
  refine (imageOf_yes v R C f _ HI.out H.out).mono ?_
  rintro e w1 ⟨rfl, b1⟩
  have B1 := hide b1
  clear b1
  go_wp2_with (first | (with_reducible refine wpList_allocVec 25 10 rfl rfl rfl Try.zeroImg ?_; intro wa ha ba sa) | (with_reducible refine wpList_storeVec ha rfl (.tmp 10) (.tmp 15) rfl rfl rfl Try.sizeImg ?_; intro wb hb gb sb) | (with_reducible refine wpList_loadVec hb 99 rfl rfl _ rfl rfl Try.underlying48 Try.sizeImg ?_) | (refine wpList_loadVecG hb 20 rfl (by rfl) (.tmp 10) rfl rfl Try.underlying48 Try.sizeImg ?_) | (with_reducible refine (cell_img R C f y x _ H.out).mono ?_; rw [HAT.out]; rintro e w3 ⟨rfl, b3⟩) | (with_reducible refine (colorOk_any c _).mono ?_; rw [HCC.out]; rintro e w4 ⟨rfl, rfl⟩))
  go_ret2
  have B2 := B1.out.trans ((ba.mono B1.out.size).trans (grown_below gb (fun k hk => by cases hk; exact B1.out.size) (by have := B1.out.size; omega)))
  exact matRes2_nil (B2.trans (b3.mono B2.size))
set_option maxHeartbeats 1000000 in
theorem implPutCell_yes (v : Value) (R C : Nat) (f : Nat → Nat → Int) (y x : Nat) (c : Int) (w : World) (hin : InMat w v (mkM R C f)) (hI : Img R C f) (hy : y < R) (hx : x < C) (hc : c = 0 ∨ c = 1) :
    Calls Try.prog 35 #[v, .int .i64 y, .int .i64 x, .int .i64 c] w (MatRes2 (mkM R C (putM f y x c)) true w) := by
  have hR5 := hI.r2; have hC5 := hI.c2
  have HI := hide hin; have H := hide hI
  have HCC : Hid (cellOk c = true) := hide (by rcases hc with e | e <;> rw [e] <;> rfl)
  have HPI := hide (img_put hI y x hc)
  have HPF := hide (imgF_put R C f y x c hy hx hC5)
  have HAT : Hid (atM R C f y x = f y x) := hide (by rw [atM, if_pos (by omega)]; rfl)
  have hf : (f y x == -1) = false := by rcases hI.cell y x hy hx with e | e <;> rw [e] <;> rfl
  have HA : Hid (0 + y * 5 + x * 1 = 5 * y + x) := hide (by omega)
  clear hin hI hc
  go_enter Try.func35, Try.ntmps35
  go_wp2_with fail
  refine (imageOf_yes v R C f _ HI.out H.out).mono ?_
  rintro e w1 ⟨rfl, b1⟩
  have B1 := hide b1
  have hs1 := b1.size
  clear b1
  go_wp2_with (first | (with_reducible refine wpList_allocVec 25 10 rfl rfl rfl Try.zeroImg ?_; intro wa ha ba sa) | (with_reducible refine wpList_storeVec ha rfl (.tmp 10) (.tmp 15) rfl rfl rfl Try.sizeImg ?_; intro wb hb gb sb) | (with_reducible refine wpList_loadVec hb 99 rfl rfl _ rfl rfl Try.underlying48 Try.sizeImg ?_) | (refine wpList_loadVecG hb 20 rfl (by rfl) (.tmp 10) rfl rfl Try.underlying48 Try.sizeImg ?_) | (with_reducible refine (cell_img R C f y x _ H.out).mono ?_; rw [HAT.out]; rintro e w3 ⟨rfl, b3⟩; have HB3 := hide (blk_below hb b3); have hcl := blk_cell HB3.out (5 * y + x) (by omega); have hfr := blk_frozen HB3.out (5 * y + x)) | (with_reducible refine (colorOk_any c _).mono ?_; rw [HCC.out]; rintro e w4 ⟨rfl, rfl⟩) | (with_reducible refine wpList_indexAt y 34 rfl rfl _ _ rfl rfl rfl Try.underlying48 Try.sizeOf46 (by omega) ?_) | (with_reducible refine wpList_indexAt x 35 rfl rfl _ _ rfl rfl rfl Try.underlying46 Try.sizeOf3 (by omega) ?_; rw [HA.out]) | (with_reducible refine wpList_loadVec (blk_congr (blk_set HB3.out (5 * y + x) c) HPF.out) 36 rfl rfl _ rfl rfl Try.underlying48 Try.sizeImg ?_))
  have B2 := hide (B1.out.trans ((ba.mono B1.out.size).trans (grown_below gb (fun k hk => by cases hk; exact B1.out.size) (by have := B1.out.size; omega))))
  have B4 := hide ((B2.out.trans (b3.mono B2.out.size)).setCell (p := ⟨w1.heap.size, 5 * y + x, none⟩) hs1 (.int .i64 c))
  clear ha ba sa hb gb sb b3 hcl hfr
  refine (lists_any R C _ _ HPI.out).mono ?_
  rintro e w5 ⟨v5, rfl, o5, b5⟩
  have O5 := hide (ownMat_mono o5 B4.out.size (Nat.le_refl _)); have B5 := hide (B4.out.trans (b5.mono B4.out.size))
  clear o5 b5
  go_wp2
  go_ret2
  exact ⟨_, rfl, O5.out, B5.out⟩
end Go.Proofs.Ytcpcplggoogpeaa
