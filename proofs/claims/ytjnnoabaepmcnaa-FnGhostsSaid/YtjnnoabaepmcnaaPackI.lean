/-
  Texts of this claim, one behind the other: Cancel, RowSS, RowS, OwnIm, AppR.
-/
import Derived.Test.YtjnnoabaepmcnaaPackF
import Derived.Test.YtjnnoabaepmcnaaPackG
import Derived.Test.YtjnnoabaepmcnaaPackA
import Derived.Test.YtjnnoabaepmcnaaPackH
/-
  lineMap.cancel: one map of lines less another one.
-/
namespace Go.Proofs.Ytjnnoabaepmcnaa
open Go.RowKit Go.Maps
open Go.ChangeMaps (setBlock)

theorem grown_drew (w : World) (row : Option Nat) : w.grownBy w.drew row := ⟨rfl, rfl, rfl, Nat.le_refl _, fun _ _ _ => rfl⟩
theorem lr_cnt {w : World} {b r n : Nat} {A : Key → Bool} {F : Key → Int} {left : Key → Bool} {cnt : Nat} (h : LR w b r n A F left cnt) : cnt ≤ n := by
  obtain ⟨D, lf, ⟨es, clock, since, seen, c0, _, _, hs, _, _, _, hc, _⟩, -⟩ := h
  have : (leftOf es seen).size ≤ es.size := Array.size_filter_le
  omega
theorem exec_loadKey {ρ : Operand → Value} {o : Oper} {w : World} {x : Operand} {g : Nat} {k : Key} (ho : o.op = .load 110 x) (hx : ρ x = .pointer (some ⟨g, 0, none⟩)) (hd : w.heap[g]? = some (.cells #[.int .i64 k.x, .int .i64 k.y, .int .i64 k.n] 110 (0, 0))) :
    (execOp ρ o).run Try.prog w = .ok (.value (keyV k)) w := by
  unfold execOp keyV
  simp only [ho, hx, Instr.loadAt, Instr.sureAddr, Sem.run_bind, Sem.run_pure, Result.andThen_ok, run_loadVar_row w g _ _ _ _ _ hd Try.underlying110 rfl (show (Try.prog.info? 110).map (·.size) = some 3 by kernel_rfl)]
theorem wpList_loadKey {ops : Array Oper} {rest : List Oper} {o : Oper} {a : Act} {Q : Exit → Act → World → Prop} {W : World} {g : Nat} {k : Key} (hb : W.heap[g]? = some (.cells #[.int .i64 k.x, .int .i64 k.y, .int .i64 k.n] 110 (0, 0)))
    (hgd : o.guard = none) (x : Operand) (ho : o.op = .load 110 x) (hx : a.eval x = .pointer (some ⟨g, 0, none⟩))
    (h : wpList Try.prog ops Q rest (a.put o.dst (keyV k)) W) : wpList Try.prog ops Q (o :: rest) a W :=
  wpList_plain hgd fun _ hK => run_value _ (exec_loadKey ho hx hb) (hK _ _ h)

def CancelRes (b1 : Nat) (F1 F2 : Key → Int) (w : World) (e : Ending) (w' : World) : Prop :=
  ∃ nn, e = .returned (.tuple #[]) ∧ nn ≤ 200 ∧ LM w' b1 nn (thereK fun k => F1 k - F2 k) (fun k => F1 k - F2 k) ∧ w.grownBy w' (some b1)
/-- What has been taken away, as long as 'left' are still to come. -/
def lessK (A2 : Key → Bool) (F1 F2 : Key → Int) (left : Key → Bool) (k : Key) : Int := F1 k - if A2 k = true ∧ left k = false then F2 k else 0

end Go.Proofs.Ytjnnoabaepmcnaa
/-
  RowSums of the model.
-/
namespace Go.Proofs.Ytjnnoabaepmcnaa
open Go.RowKit

end Go.Proofs.Ytjnnoabaepmcnaa
/-
  RowSums of both.
-/
namespace Go.Proofs.Ytjnnoabaepmcnaa
open Go.RowKit

theorem alongRows_any (w : World) : Calls Try.prog 41 #[] w fun e w' => e = .returned (.agg #[.int .i64 1, .int .i64 0]) ∧ Below w.heap.size w w' := by
  go_enter Try.func41, Try.ntmps41
  go_wp2
  exact bodyPost_ret (v := .agg #[.int .i64 1, .int .i64 0]) (by simp [results, Try.results41, go_sem]) rfl ⟨rfl, (Below.refl _ _).alloc (Nat.le_refl _) _⟩
theorem implRowSums_no (v : Value) (m : List (List Int)) (w : World) (hin : InMat w v m) (h : okB m = false) :
    Calls Try.prog 15 #[v] w (IntsRes [] w) := by
  have HI := hide hin; have H := hide h
  clear hin h
  go_enter Try.func15, Try.ntmps15
  go_wp2_with fail
  refine (alongRows_any _).mono ?_
  rintro e w1 ⟨rfl, hb⟩
  have HB := hide hb
  clear hb
  go_wp2_with fail
  refine (implLineSums_img v m 1 0 _ (inMat_below HI.out HB.out) H.out).mono ?_
  rintro e w2 ⟨u, rfl, ho, hb⟩
  have HO := hide (own_base ho HB.out.size); have HB2 := hide (HB.out.trans (hb.mono HB.out.size))
  clear ho hb
  go_wp2
  go_ret
  exact ⟨_, rfl, HO.out, HB2.out⟩
theorem implRowSums_yes (v : Value) (R C : Nat) (f : Nat → Nat → Int) (w : World) (hin : InMat w v (mkM R C f)) (hI : Img R C f) :
    Calls Try.prog 15 #[v] w (IntsRes (rowsL R C f) w) := by
  have HI := hide hin; have H := hide hI
  rw [← lineRow_rows]
  clear hin hI
  go_enter Try.func15, Try.ntmps15
  go_wp2_with fail
  refine (alongRows_any _).mono ?_
  rintro e w1 ⟨rfl, hb⟩
  have HB := hide hb
  clear hb
  go_wp2_with fail
  refine (implLineSums_yes v R C R f 1 0 _ (inMat_below HI.out HB.out) H.out (by decide) (countL_rows R C).symm (by have := H.out.r2; omega)).mono ?_
  rintro e w2 ⟨u, rfl, ho, hb⟩
  have HO := hide (own_base ho HB.out.size); have HB2 := hide (HB.out.trans (hb.mono HB.out.size))
  clear ho hb
  go_wp2
  go_ret
  exact ⟨_, rfl, HO.out, HB2.out⟩

end Go.Proofs.Ytjnnoabaepmcnaa
/-
  A list of lists of rows that the call owns.
-/
namespace Go.Proofs.Ytjnnoabaepmcnaa
open Go.RowKit

theorem Try.infoMat : (Try.prog.info? 23).map (fun i => (i.zero, i.size, i.bytes)) = some (some (.slice none 0 0), 1, 24) := by kernel_rfl
/-- Rows of the call's own, from lo on. -/
def OwnM2 (w : World) (lo : Nat) (v : Value) (m : List (List Int)) : Prop := ∃ hi, hi ≤ w.heap.size ∧ OwnMat w lo hi v m
theorem ownM2_below {w w' : World} {lo : Nat} {v : Value} {m : List (List Int)} (h : OwnM2 w lo v m) (hb : Below w.heap.size w w') : OwnM2 w' lo v m := by
  obtain ⟨hi, h1, h2⟩ := h
  exact ⟨hi, Nat.le_trans h1 hb.size, ownMat_below h2 hb⟩
theorem ownM2_kept {w w' : World} {lo B e n : Nat} {v u : Value} {m : List (List Int)} {xs : List Value} (h : OwnM2 w lo v m) (hu : w.ownsRow B e 1 u n xs) (hg : w.grownBy w' u.ownBlock) (h1 : 30 ≠ e) (h2 : 3 ≠ e) : OwnM2 w' lo v m := by
  obtain ⟨hi, h0, vs, g1, g2, g3, g4⟩ := h
  exact ⟨hi, Nat.le_trans h0 hg.size, vs, g1.kept hg (own_types g1 hu h1), g2, fun i hi => ⟨(g3 i hi).1.kept hg (own_types (g3 i hi).1 hu h2), (g3 i hi).2⟩, g4⟩
/-- A list of lists of rows that the call owns. -/
def OwnImgs (w : World) (lo : Nat) (v : Value) (ms : List (List (List Int))) : Prop :=
  ∃ us : List Value, w.ownsRow lo 23 1 v ms.length us ∧ ∀ i, (h : i < ms.length) → OwnM2 w lo (us.getD i undef) ms[i]
theorem ownImgs_below {w w' : World} {lo : Nat} {v : Value} {ms : List (List (List Int))} (h : OwnImgs w lo v ms) (hb : Below w.heap.size w w') : OwnImgs w' lo v ms := by
  obtain ⟨us, h1, h2⟩ := h
  exact ⟨us, own_below h1 hb, fun i hi => ownM2_below (h2 i hi) hb⟩
theorem ownImgs_push {w w' : World} {lo : Nat} {v v' u : Value} {us : List Value} {ms : List (List (List Int))} {m : List (List Int)} (hv : w.ownsRow lo 23 1 v ms.length us) (hr : ∀ i, (h : i < ms.length) → OwnM2 w lo (us.getD i undef) ms[i]) (hu : OwnM2 w lo u m)
    (hg : w.grownBy w' v.ownBlock) (ho : w'.ownsRow lo 23 1 v' (ms.length + 1) (us ++ [u])) : OwnImgs w' lo v' (ms ++ [m]) := by
  have hl : us.length = ms.length := by have := hv.1; omega
  refine ⟨us ++ [u], by simpa using ho, fun i h => ?_⟩
  by_cases e : i < ms.length
  · have e1 : (us ++ [u]).getD i undef = us.getD i undef := by simp [List.getD_eq_getElem?_getD, List.getElem?_append_left (show i < us.length by omega)]
    rw [e1, List.getElem_append_left e]
    exact ownM2_kept (hr i e) hv hg (by decide) (by decide)
  · obtain rfl : i = ms.length := by simp at h; omega
    have e1 : (us ++ [u]).getD ms.length undef = u := by rw [← hl]; simp [List.getD_eq_getElem?_getD]
    rw [e1, show (ms ++ [m])[ms.length] = m by simp]
    exact ownM2_kept hu hv hg (by decide) (by decide)
end Go.Proofs.Ytjnnoabaepmcnaa
/-
  A slice of integers appended to a slice that the call owns.
-/
namespace Go.Proofs.Ytjnnoabaepmcnaa
open Go.RowKit

/-- 'append(v, r...)' at a slice of the call's own, r a slice of integers. -/
theorem wpList_appendRow {P : Program} {ops : Array Oper} {rest : List Oper} {o : Oper} {a : Act} {Q : Exit → Act → World → Prop} {W : World} {base n bytes : Nat} {E T : TypeId} {v : Value} {xs : List Value} (d : Tmp) (_hd : o.dst = some d)
    (hown : W.ownsRow base E 1 v n xs) (r : List Int) (g b c : Nat) (z : Value) (hgd : o.guard = none) (s x : Operand)
    (ho : o.op = .call { callee := .builtin .append, args := #[s, x], argTypes := #[T, T] })
    (ht : P.underlying T = some (.slice E)) (hinfo : (P.info? E).map (fun i => (i.zero, i.size, i.bytes)) = some (some z, 1, bytes)) (hz : z.cells.size = 1) (hby : bytes ≤ 32)
    (hs : a.eval s = v) (hx : a.eval x = .slice (some ⟨g, b, none⟩) r.length c) (hr : ∀ j, (h : j < r.length) → W.cell? ⟨g, b + j, none⟩ = some (.int .i64 r[j])) (hn : n + r.length < 4000000) (hbase : base ≤ W.heap.size)
    (h : ∀ v' w', w'.ownsRow base E 1 v' (n + r.length) (xs ++ ints r) → Below base W w' → W.grownBy w' v.ownBlock → wpList P ops Q rest (a.put o.dst v') w') :
    wpList P ops Q (o :: rest) a W := by
  obtain ⟨i0, hi, hz0, hz1, hz2⟩ := info_parts hinfo
  refine wpList_append_own _ hgd s x T ho base E i0 z 1 bytes ht hi hz0 hz1 hz2 hz (by decide) v n xs hs hown ⟨g, b, none⟩ r.length c (ints r) hx (by simp [ints]) (fun j u hu => ?_) (fun u hu => ?_)
    (by unfold maxLen; omega) (by have : (n + r.length) * bytes ≤ 4000000 * 32 := Nat.mul_le_mul (by omega) hby; omega) hbase ?_
  · have hj : j < r.length := by have := (List.getElem?_eq_some_iff.1 hu).1; simpa [ints] using this
    rw [ints_at r j hj, Option.some.injEq] at hu
    subst hu
    rw [addr_add]; exact hr j hj
  · simp only [ints, List.mem_map] at hu
    obtain ⟨q, -, rfl⟩ := hu; rfl
  · intro v' w' hown' hg _
    exact h v' w' hown' ((Below.refl _ _).grown hg hbase (fun k hk => (hown.lt k hk).1)) hg
end Go.Proofs.Ytjnnoabaepmcnaa
