/-
  FormatInt, of the model and of the program: both return the decimal numeral of the number.
-/
import Derived.Test.YtfdcfjlndijhlaaDoorConv
import Derived.Test.YtfdcfjlndijhlaaDoorShItoa
import Derived.IntWalk
import Derived.Deep.RegionWith
namespace Go.Proofs.YtfdcfjlndijhlaaDoor
open Go.RowKit

theorem tdiv_neg (m : Nat) : (-(m : Int)).tdiv 10 = -((m / 10 : Nat) : Int) := by
  rw [Int.neg_tdiv, Int.tdiv_eq_ediv_of_nonneg (by omega)]; omega
theorem tmod_neg (m : Nat) : (-(m : Int)).tmod 10 = -((m % 10 : Nat) : Int) := by
  rw [Int.neg_tmod, Int.tmod_eq_emod_of_nonneg (by omega)]; omega
theorem itoa_digit (m : Nat) (h0 : 0 < m) (h1 : m < 10) : Lib.itoa (-(m : Int)) = [45, UInt8.ofNat (48 + m)] := by
  rw [Lib.itoa, if_pos (by omega), Lib.decDigits, dif_pos (by omega), Int.natAbs_neg, Int.natAbs_natCast]
theorem itoa_more (m : Nat) (h : 10 ≤ m) : Lib.itoa (-(m : Int)) = Lib.itoa (-((m / 10 : Nat) : Int)) ++ [UInt8.ofNat (48 + m % 10)] := by
  rw [Lib.itoa, if_pos (by omega), Lib.decDigits, dif_neg (by omega), Lib.itoa, if_pos (by omega), Int.natAbs_neg, Int.natAbs_natCast, Int.natAbs_neg, Int.natAbs_natCast]; rfl
theorem bcell {W w1 : World} (hb : Below W.heap.size W w1) : (∀ b o, b < W.heap.size → w1.cell? ⟨b, o, none⟩ = W.cell? ⟨b, o, none⟩) ∧ (∀ b o, b < W.heap.size → w1.frozen? ⟨b, o, none⟩ = W.frozen? ⟨b, o, none⟩) :=
  ⟨fun b o h => hb.cell (p := ⟨b, o, none⟩) h, fun b o h => hb.frozen (p := ⟨b, o, none⟩) h⟩
theorem digits_len (n : Nat) (k : Nat) (h : n < 10 ^ k) (hk : 0 < k) : (Lib.decDigits n).length ≤ k := by
  induction k generalizing n with
  | zero => omega
  | succ k ih =>
    rw [Lib.decDigits]; split
    · simp
    · rename_i h9
      have hk0 : 0 < k := by
        rcases Nat.eq_zero_or_pos k with e | e
        · subst e; omega
        · exact e
      have := ih (n / 10) (by rw [Nat.pow_succ] at h; omega) hk0
      simp; omega
theorem itoa_len (n : Int) (h0 : -9223372036854775808 ≤ n) (h1 : n ≤ 9223372036854775807) : (Lib.itoa n).length ≤ 20 := by
  rw [Lib.itoa]; split
  · have := digits_len n.natAbs 19 (by omega) (by omega); simp; omega
  · have := digits_len n.toNat 19 (by omega) (by omega); omega

set_option maxHeartbeats 400000 in
theorem specFormat_pos (n : Nat) (w : World) (hn : n ≤ 9223372036854775807) :
    Calls Tryd.prog 14 #[.int .i64 n] w fun e w' => e = .returned (.string ⟨(Lib.decDigits n).toArray⟩) ∧ Below w.heap.size w w' := by
  have hl := digits_len n 19 (by omega) (by omega)
  have HL := hide hl
  clear hl
  go_enter Tryd.func14, Tryd.ntmps14
  go_wp2
  go_loopw [0, 3] (fun k o w' => ∃ (m : Nat) (out : ByteArray), m ≤ n ∧ Lib.decDigits m ++ out.data.toList = Lib.decDigits n ∧ k = .int .i64 m ∧ o = .string out ∧ Below w.heap.size w w') (fun k _ _ => (intOf k).toNat)
  case atStart => exact ⟨n, _, Nat.le_refl _, by simp, rfl, rfl, Below.refl _ _⟩
  case round =>
    obtain ⟨m, out, hm, hd, rfl, rfl, hb⟩ := hrel
    have hsz : out.size ≤ 19 := by
      have := congrArg List.length hd
      rw [List.length_append] at this
      have h2 := HL.out
      have h3 : out.data.toList.length = out.size := by simp
      omega
    have HD := hide hd; have HB := hide hb
    clear hd hb
    by_cases hlt : 9 < m
    · have hcv := conv1 wr (48 + (m : Int) % 10)
      go_wp2
      go_roundw
      case rel =>
        refine ⟨m / 10, _, by omega, ?_, by go_num, rfl, HB.out.alloc HB.out.size _⟩
        rw [← HD.out, Lib.decDigits.eq_1 m, dif_neg (by omega), mk_append, List.append_assoc]
        simp only [UInt8.ofNat_add]; rfl
      case measure => simp [intOf]; omega
    · have hcv := conv1 wr (48 + (m : Int))
      go_wp2
      go_ret
      refine ⟨ret_string ?_, HB.out.alloc HB.out.size _⟩
      rw [mk_append, ← HD.out, Lib.decDigits.eq_1 m, dif_pos (by omega)]
      simp only [UInt8.ofNat_add]; rfl

theorem call_make {w w' : World} (hb : Below w.drew.heap.size w.drew w') (o : Obj) : Below w.heap.size w (w'.alloc o) := by
  have h : Below w.heap.size w w' := (Below.refl w.heap.size w).drew.trans hb
  exact h.alloc h.size _
theorem make_call {w w' : World} {o : Obj} (hb : Below (w.alloc o).drew.heap.size (w.alloc o).drew w') : Below w.heap.size w w' :=
  (((Below.refl w.heap.size w).alloc (Nat.le_refl _) o).drew).trans (hb.mono (by show w.heap.size ≤ (w.alloc o).heap.size; simp))
attribute [local go_sem] conv_at
set_option maxHeartbeats 400000 in
theorem specFormat_neg (k : Nat) : ∀ (m : Nat) (w : World), m ≤ k → 0 < m → m ≤ 9223372036854775808 →
    Calls Tryd.prog 14 #[.int .i64 (-(m : Int))] w fun e w' => e = .returned (.string ⟨(Lib.itoa (-(m : Int))).toArray⟩) ∧ Below w.heap.size w w' := by
  induction k with
  | zero => intro n w hk h0 _; omega
  | succ k ih =>
    intro m w hk h0 hlo
    by_cases h10 : m < 10
    · have HI := hide (itoa_digit m h0 h10)
      have hq : (-(m : Int)).tdiv 10 = 0 := by rw [tdiv_neg]; omega
      have hcv := conv1 w (48 + (m : Int))
      go_enter Tryd.func14, Tryd.ntmps14
      go_wp2
      go_ret
      exact ⟨ret_string (by rw [HI.out, mk_append]; simp only [UInt8.ofNat_add]; rfl), (Below.refl _ _).alloc (Nat.le_refl _) _⟩
    · have HI := hide (itoa_more m (by omega))
      have hq := tdiv_neg m
      have hr := tmod_neg m
      have hz : (-((m / 10 : Nat) : Int) == 0) = false := by simp; omega
      have hlen := itoa_len (-((m / 10 : Nat) : Int)) (by omega) (by omega)
      obtain ⟨l, hl⟩ : ∃ l, l = Lib.itoa (-((m / 10 : Nat) : Int)) := ⟨_, rfl⟩
      have ih' := fun W => ih (m / 10) W (by omega) (by omega) (by omega)
      rw [← hl] at hlen HI ih'
      have ecast : ((m / 10 : Nat) : Int) = (m : Int) / 10 := by omega
      have ecast2 : ((m % 10 : Nat) : Int) = (m : Int) % 10 := by omega
      rw [ecast] at ih' hq hz
      rw [ecast2] at hr
      have IH := hide ih'
      clear ih ih' hl ecast ecast2
      have e1 : IntKind.i64.wrap (-((m : Int) / 10)) = -((m : Int) / 10) := IntWalk.i64_in _ (by omega)
      have e2 : IntKind.i64.wrap (48 + (m : Int) % 10) = 48 + (m : Int) % 10 := IntWalk.i64_in _ (by omega)
      have e3 : IntKind.u8.wrap (48 + (m : Int) % 10) = 48 + (m : Int) % 10 := IntWalk.u8_in _ (by omega)
      go_enter Tryd.func14, Tryd.ntmps14
      go_wp2_with fail
      go_region_with (first | (go_at_call 14; refine (IH.out _).mono ?_; rintro e w' ⟨rfl, hb⟩; obtain ⟨hc, hf⟩ := bcell hb))
      all_goals
        go_wp2
        go_ret
        refine ⟨ret_string (by rw [HI.out, append_mk]; simp only [UInt8.ofNat_add]; rfl), ?_⟩
        first
          | exact call_make hb _
          | exact make_call hb

set_option maxHeartbeats 400000 in
theorem specFormat_any (n : Int) (w : World) (h0 : -9223372036854775808 ≤ n) (h1 : n ≤ 9223372036854775807) :
    Calls Tryd.prog 14 #[.int .i64 n] w fun e w' => e = .returned (.string ⟨(Lib.itoa n).toArray⟩) ∧ Below w.heap.size w w' := by
  by_cases hn : n < 0
  · obtain ⟨m, rfl⟩ : ∃ m : Nat, n = -(m : Int) := ⟨n.natAbs, by omega⟩
    exact specFormat_neg m m w (Nat.le_refl _) (by omega) (by omega)
  · obtain ⟨m, rfl⟩ : ∃ m : Nat, n = (m : Int) := ⟨n.toNat, by omega⟩
    have e : Lib.itoa (m : Int) = Lib.decDigits m := by rw [Lib.itoa, if_neg (by omega)]; rfl
    rw [e]
    exact specFormat_pos m w (by omega)

theorem grow_below (w : World) (k : Nat) (os : Array Obj) : Below w.heap.size w (Sort.grow (w.drewN k) os) :=
  ⟨rfl, rfl, rfl, by simp [Sort.grow], fun i hi => by
    show ((w.drewN k).heap ++ os)[i]? = _
    rw [Array.getElem?_append_left (by simpa using hi)]; rfl⟩
set_option maxHeartbeats 400000 in
theorem implFormat_any (n : Int) (w : World) (h0 : -9223372036854775808 ≤ n) (h1 : n ≤ 9223372036854775807) (htab : Lib.TabIs Tryd.prog w "internal/strconv.uint64pow10" .u64 Lib.pow10Tab) :
    Calls Tryd.prog 8 #[.int .i64 n] w fun e w' => e = .returned (.string ⟨(Lib.itoa n).toArray⟩) ∧ Below w.heap.size w w' := by
  have HT := hide htab
  clear htab
  go_enter Tryd.func8, Tryd.ntmps8
  go_wp2_with fail
  refine (Tryd.strconv_Itoa n h0 h1 _ HT.out).mono ?_
  rintro e w' ⟨rfl, k, os, rfl⟩
  go_wp2
  go_ret
  exact ⟨rfl, grow_below _ _ _⟩

theorem var_below {P : Program} {w w' : World} {n : String} {cs : Array Value} (h : w.var? P n = some cs) (hb : Below w.heap.size w w') : w'.var? P n = some cs := by
  unfold World.var? at h ⊢
  cases hg : P.globalNamed n with
  | none => simp [hg] at h
  | some g =>
    simp only [hg, Option.bind_some] at h ⊢
    by_cases hlt : g < w.heap.size
    · rw [hb.block g hlt]; exact h
    · rw [Array.getElem?_eq_none (by omega)] at h; simp at h

/-- The table lies below the blocks of a call that begins in w, so it is there behind it. -/
theorem tab_below {w w' : World} {name : String} {k : IntKind} {zs : List Int} (h : Lib.TabIs Tryd.prog w name k zs) (hb : Below w.heap.size w w') : Lib.TabIs Tryd.prog w' name k zs := by
  unfold Lib.TabIs at h ⊢
  exact var_below h hb

set_option maxHeartbeats 400000 in
theorem lawFormatInt_walk (n : Int) (w : World) (hn : (Lit.int .i64 n).wf = true) (htab : Lib.TabIs Tryd.prog w "internal/strconv.uint64pow10" .u64 Lib.pow10Tab) :
    Calls Tryd.prog 4 #[.int .i64 n] w fun e w' => e = .returned (.bool true) ∧ Below w.heap.size w w' := by
  have hb : -9223372036854775808 ≤ n ∧ n ≤ 9223372036854775807 := by
    have e1 : IntKind.i64.min = -9223372036854775808 := rfl
    have e2 : IntKind.i64.max = 9223372036854775807 := rfl
    simpa [Lit.wf, e1, e2] using hn
  have HT := hide htab; have HB := hide hb
  clear htab hb hn
  go_enter Tryd.func4, Tryd.ntmps4
  go_wp2_with fail
  refine (specFormat_any n _ HB.out.1 HB.out.2).mono ?_
  rintro e w1 ⟨rfl, hb1⟩
  have HB1 := hide hb1
  clear hb1
  go_wp2_with fail
  refine (implFormat_any n _ HB.out.1 HB.out.2 (tab_below HT.out HB1.out)).mono ?_
  rintro e w2 ⟨rfl, hb2⟩
  have HB2 := hide (HB1.out.trans (hb2.mono HB1.out.size))
  clear hb2
  go_wp2
  go_ret
  exact ⟨rfl, HB2.out⟩
end Go.Proofs.YtfdcfjlndijhlaaDoor
