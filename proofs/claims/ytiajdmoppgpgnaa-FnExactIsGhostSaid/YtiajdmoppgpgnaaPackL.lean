/-
  Texts of this claim, one behind the other: GhS, LawsGh, AddI, Less, BgP.
-/
import Derived.Test.YtiajdmoppgpgnaaPackK
import Derived.Test.YtiajdmoppgpgnaaPackE
import Derived.Test.YtiajdmoppgpgnaaPackB
import Derived.Test.YtiajdmoppgpgnaaPackJ
import Derived.Test.YtiajdmoppgpgnaaPackF
/-
  IsGhost of the model.
-/
namespace Go.Proofs.Ytiajdmoppgpgnaa
open Go.RowKit
set_option maxRecDepth 100000

def nzR (r : List Int) : Bool := r.any fun x => x != 0
theorem nzR_eq (r : List Int) : nzR r = !within r 0 := by
  unfold nzR within
  induction r with
  | nil => rfl
  | cons x r ih =>
    rw [List.any_cons, List.all_cons, ih]
    by_cases h : x = 0
    · subst h; simp
    · rw [decide_eq_false (show ¬ (-(0 : Int) ≤ x ∧ x ≤ 0) by omega)]
      simp [h]
theorem any_nz (m : List (List Int)) : (m.any fun r => !within r 0) = m.any nzR := by
  congr 1
  funext r
  exact (nzR_eq r).symm
theorem any_take_succ {α : Type} (p : α → Bool) (l : List α) (k : Nat) (h : k < l.length) : (l.take (k + 1)).any p = ((l.take k).any p || p l[k]) := by
  rw [List.take_succ_eq_append_getElem h, List.any_append]; simp

set_option maxHeartbeats 4000000 in
theorem specIsGhost_any (v u : Value) (m : List (List Int)) (l : List (Int × Int)) (w : World) (hin : InMat w v m) (hl : DrsC w u l) :
    Calls Try.prog 29 #[v, u] w fun e w' => e = .returned (.bool (ghostB m l)) ∧ Below w.heap.size w w' := by
  have HIN := hide hin; have HL := hide hl
  obtain ⟨a, c, rfl, hm, hp⟩ := hin
  obtain ⟨a2, c2, rfl, hlc, hm2, hp2⟩ := hl
  unfold maxLen at hm hm2
  have HP := hide hp; have HP2 := hide hp2
  have HOK := hide fun w h => specDirsOk_any (.slice a2 l.length c2) l w h
  have HGO := hide fun w h => l11Grid_any (.slice a m.length c) m w h
  have HGS := hide fun dx dy w h => specGridSums_any (.slice a m.length c) m dx dy w h
  have hml2 : l.length ≤ 2 ^ 63 - 1 := by omega
  obtain ⟨n, hn⟩ : ∃ n, n = m.length := ⟨_, rfl⟩
  have HN := hide hn
  rw [← hn] at HIN hm HGO HGS ⊢
  obtain ⟨n2, hn2⟩ : ∃ n, n = l.length := ⟨_, rfl⟩
  have HN2 := hide hn2
  rw [← hn2] at HL HOK hlc hml2 ⊢
  clear hn hn2 hp hp2
  cases hd : dirsB l with
  | false =>
    have HE : Hid (ghostB m l = false) := hide (by rw [ghostB, hd]; rfl)
    rw [hd] at HOK
    rw [HE.out]
    clear hd
    go_enter Try.func29, Try.ntmps29
    go_wp2_with ((with_reducible refine (HOK.out _ HL.out).mono ?_); rintro e w1 ⟨rfl, hb⟩; have HB := hide hb; clear hb)
    go_ret
    exact ⟨rfl, HB.out⟩
  | true =>
    rw [hd] at HOK
    cases hg : gridOkB m with
    | false =>
      have HE : Hid (ghostB m l = false) := hide (by rw [ghostB, hd, hg]; rfl)
      rw [hg] at HGO
      rw [HE.out]
      clear hd hg
      go_enter Try.func29, Try.ntmps29
      go_wp2_with (first | ((with_reducible refine (HOK.out _ HL.out).mono ?_); rintro e w1 ⟨rfl, hb⟩; have HB := hide hb; clear hb) | ((with_reducible refine (HGO.out _ (inMat_below HIN.out HB.out)).mono ?_); rintro e w2 ⟨rfl, rfl⟩))
      go_ret
      exact ⟨rfl, HB.out⟩
    | true =>
      have HE : Hid (ghostB m l = (m.any nzR && l.all fun d => within (gsL m d.1 d.2) 0)) := hide (by rw [ghostB, hd, hg, any_nz]; rfl)
      rw [hg] at HGO
      obtain ⟨Z, hZ⟩ : ∃ Z, Z = m.any nzR := ⟨_, rfl⟩
      have HZ := hide hZ
      obtain ⟨A, hA⟩ : ∃ A, A = l.all fun d => within (gsL m d.1 d.2) 0 := ⟨_, rfl⟩
      have HA := hide hA
      rw [HE.out, ← hZ, ← hA]
      clear hd hg hZ hA HE
      go_enter Try.func29, Try.ntmps29
      go_wp2_with (first | ((with_reducible refine (HOK.out _ HL.out).mono ?_); rintro e w1 ⟨rfl, hb⟩; have HB := hide hb; clear hb) | ((with_reducible refine (HGO.out _ (inMat_below HIN.out HB.out)).mono ?_); rintro e w2 ⟨rfl, rfl⟩))
      go_loop [5, 24] (fun s i => ∃ (k : Nat) (b : Bool), k ≤ n ∧ i = .int .i64 k ∧ s = .bool b ∧ b = (m.take k).any nzR) (fun _ i => n - (intOf i).toNat)
      case atStart => exact ⟨0, false, Nat.zero_le _, rfl, rfl, by simp⟩
      case round =>
        obtain ⟨k, b, hk, rfl, rfl, hs⟩ := hrel
        have HS := hide hs
        clear hs
        by_cases hlt : k < n
        · have hltI : (k : Int) < n := by omega
          have hkm : k < m.length := by rw [← HN.out]; exact hlt
          obtain ⟨g, o, rfl, hgl, hcl⟩ := HP.out.resolve_left (by rw [← HN.out]; omega)
          obtain ⟨x, hx, hr⟩ := hcl k hkm
          have hx := below_cell HB.out hgl hx
          have HTK := hide (any_take_succ nzR m k hkm)
          obtain ⟨row, hrow⟩ : ∃ row, row = m[k] := ⟨_, rfl⟩
          rw [← hrow] at hr HTK
          obtain ⟨a3, c3, rfl, hm3, hp3⟩ := hr
          unfold maxLen at hm3
          have HP3 := hide hp3
          obtain ⟨n3, hn3⟩ : ∃ n, n = row.length := ⟨_, rfl⟩
          have HN3 := hide hn3
          rw [← hn3] at hx hm3
          clear hcl hrow hn3 hp3
          go_wp2
          go_loop [5, 30] (fun s i => ∃ (j : Nat) (b2 : Bool), j ≤ n3 ∧ i = .int .i64 j ∧ s = .bool b2 ∧ b2 = (b || (row.take j).any fun x => x != 0)) (fun _ i => n3 - (intOf i).toNat)
          case atStart => exact ⟨0, b, Nat.zero_le _, rfl, rfl, by simp⟩
          case round =>
            obtain ⟨j, b2, hj, rfl, rfl, hs2⟩ := hrel
            have HS2 := hide hs2
            clear hs2
            by_cases hlj : j < n3
            · have hljI : (j : Int) < n3 := by omega
              have hjr : j < row.length := by rw [← HN3.out]; exact hlj
              obtain ⟨g3, o3, rfl, hg3, hc3⟩ := HP3.out.resolve_left (by rw [← HN3.out]; omega)
              have hcx := below_cell HB.out hg3 (hc3 j hjr)
              have HT3 := hide (any_take_succ (fun x : Int => x != 0) row j hjr)
              obtain ⟨z, hz⟩ : ∃ z, z = row[j] := ⟨_, rfl⟩
              rw [← hz] at hcx HT3
              clear hz hc3
              cases b2 with
              | true =>
                go_wp2
                go_round
                case rel => exact ⟨j + 1, true, by omega, by go_num, rfl, by rw [HT3.out, ← Bool.or_assoc, ← HS2.out]; rfl⟩
                case measure => simp [intOf]; omega
              | false =>
                go_wp2
                go_round
                case rel => exact ⟨j + 1, _, by omega, by go_num, rfl, by rw [HT3.out, ← Bool.or_assoc, ← HS2.out]; rfl⟩
                case measure => simp [intOf]; omega
            · obtain rfl : j = n3 := by omega
              have HT : Hid (row.take j = row) := hide (List.take_of_length_le (by rw [HN3.out]; exact Nat.le_refl _))
              go_wp2
              go_round
              case rel => exact ⟨k + 1, b2, by omega, by go_num, rfl, by rw [HTK.out, ← HS.out, HS2.out, HT.out]; rfl⟩
              case measure => simp [intOf]; omega
        · obtain rfl : k = n := by omega
          have HSB : Hid (b = Z) := hide (by rw [HS.out, HZ.out, List.take_of_length_le (by rw [HN.out]; exact Nat.le_refl _)])
          go_wp2
          go_loopw [43] (fun i w' => ∃ j : Nat, j ≤ n2 ∧ i = .int .i64 j ∧ (∀ t, (h : t < l.length) → t < j → within (gsL m l[t].1 l[t].2) 0 = true) ∧ Below w.heap.size w w') (fun i _ => n2 - (intOf i).toNat)
          case atStart => exact ⟨0, Nat.zero_le _, rfl, fun t _ h => absurd h (Nat.not_lt_zero _), HB.out⟩
          case round =>
            obtain ⟨wo, rfl⟩ : ∃ wo, wo = wr := ⟨_, rfl⟩
            obtain ⟨j, hj, rfl, hall, hb⟩ := hrel
            have HALL := hide hall; have HB2 := hide hb
            clear hall hb
            by_cases hlj : j < n2
            · have hljI : (j : Int) < n2 := by omega
              have hjl : j < l.length := by rw [← HN2.out]; exact hlj
              obtain ⟨g, o, rfl, hgl, hcl⟩ := HP2.out.resolve_left (by rw [← HN2.out]; omega)
              have hc := drC_below (hcl j hjl) HB2.out hgl
              have HNX := hide (fun (h : within (gsL m l[j].1 l[j].2) 0 = true) t (ht : t < l.length) (htj : t < j + 1) => show within (gsL m l[t].1 l[t].2) 0 = true by
                by_cases h2 : t < j
                · exact HALL.out t ht h2
                · obtain rfl : t = j := by omega
                  exact h)
              have HNO := hide (fun (h : within (gsL m l[j].1 l[j].2) 0 = false) => show A = false by
                rw [HA.out, List.all_eq_false]
                exact ⟨l[j], List.getElem_mem hjl, by simp [h]⟩)
              obtain ⟨d, hd⟩ : ∃ d, d = l[j] := ⟨_, rfl⟩
              rw [← hd] at hc HNX HNO
              obtain ⟨dx, dy⟩ := d
              obtain ⟨c0, c1⟩ := hc
              simp only at c0 c1
              have HX : Hid (Below wo.heap.size wo (wo.alloc (.cells #[.int .i64 dx, .int .i64 dy] 36))) := hide ((Below.refl _ _).alloc (Nat.le_refl _) _)
              have HD1 : Hid (DirAt (wo.alloc (.cells #[.int .i64 dx, .int .i64 dy] 36)) wo.heap.size dx dy) := hide (heap_alloc_new wo _)
              have HB3 := hide (HB2.out.trans (HX.out.mono HB2.out.size))
              obtain ⟨r, hr⟩ : ∃ r, r = gsL m dx dy := ⟨_, rfl⟩
              have HGR := hide (HGS.out dx dy _ (inMat_below HIN.out HB3.out))
              simp only at HNX HNO
              rw [← hr] at HGR HNX HNO
              clear hcl hd hr
              go_wp2_with (first | (with_reducible refine wpList_loadDir HD1.out rfl _ rfl rfl ?_) | ((with_reducible refine HGR.out.mono ?_); rintro e w3 ⟨x, rfl, ho, hb⟩; have HRO := hide (inRow_own ho); obtain ⟨ra, rc, rfl⟩ := own_slice ho; have HB4 := hide (HB3.out.trans (hb.mono HB3.out.size)); clear ho hb))
              obtain ⟨a4, c4, he4, hm4, hp4⟩ := HRO.out
              simp only [Value.slice.injEq] at he4
              obtain ⟨rfl, -, rfl⟩ := he4
              unfold maxLen at hm4
              have HP4 := hide hp4
              obtain ⟨n4, hn4⟩ : ∃ n, n = r.length := ⟨_, rfl⟩
              have HN4 := hide hn4
              rw [← hn4] at hm4 ⊢
              clear hp4 hn4 HRO
              go_loop [51] (fun i => ∃ t : Nat, t ≤ n4 ∧ i = .int .i64 t ∧ ∀ q, (h : q < r.length) → q < t → r[q] = 0) (fun i => n4 - (intOf i).toNat)
              case atStart => exact ⟨0, Nat.zero_le _, rfl, fun q _ h => absurd h (Nat.not_lt_zero _)⟩
              case round =>
                obtain ⟨t, ht, rfl, hz⟩ := hrel
                have HZZ := hide hz
                clear hz
                by_cases hlt4 : t < n4
                · have hltI : (t : Int) < n4 := by omega
                  have htr : t < r.length := by rw [← HN4.out]; exact hlt4
                  obtain ⟨g4, o4, rfl, hg4, hc4⟩ := HP4.out.resolve_left (by rw [← HN4.out]; omega)
                  have hcx := hc4 t htr
                  have HQ := hide (fun (h : r[t] = 0) q (hq : q < r.length) (hqt : q < t + 1) => show r[q] = 0 by
                    by_cases h2 : q < t
                    · exact HZZ.out q hq h2
                    · obtain rfl : q = t := by omega
                      exact h)
                  have HQN := hide (fun (h : r[t] ≠ 0) => show within r 0 = false by
                    unfold within
                    rw [List.all_eq_false]
                    exact ⟨r[t], List.getElem_mem htr, by simp; omega⟩)
                  obtain ⟨z, hz⟩ : ∃ z, z = r[t] := ⟨_, rfl⟩
                  rw [← hz] at hcx HQ HQN
                  clear hz hc4
                  by_cases h0 : z = 0
                  · subst h0
                    go_wp2
                    go_round
                    case rel => exact ⟨t + 1, by omega, by go_num, HQ.out rfl⟩
                    case measure => simp [intOf]; omega
                  · have hne : (z != 0) = true := by simp [h0]
                    have HF := hide (HNO.out (HQN.out h0))
                    go_wp2
                    go_ret
                    exact ⟨ret_bool (by rw [HF.out, Bool.and_false]), HB4.out⟩
                · obtain rfl : t = n4 := by omega
                  have HW : Hid (within r 0 = true) := hide (by
                    unfold within
                    rw [List.all_eq_true]
                    intro x hx
                    obtain ⟨q, hq, rfl⟩ := List.getElem_of_mem hx
                    rw [HZZ.out q hq (by rw [HN4.out]; exact hq)]; rfl)
                  go_wp2
                  go_roundw
                  case rel => exact ⟨j + 1, by omega, by go_num, HNX.out HW.out, HB4.out⟩
                  case measure => simp [intOf]; omega
            · obtain rfl : j = n2 := by omega
              have HT : Hid (A = true) := hide (by
                rw [HA.out, List.all_eq_true]
                intro d hd
                obtain ⟨q, hq, rfl⟩ := List.getElem_of_mem hd
                exact HALL.out q hq (by rw [HN2.out]; exact hq))
              go_wp2
              go_ret
              exact ⟨ret_bool (by rw [HT.out, Bool.and_true, HSB.out]), HB2.out⟩
end Go.Proofs.Ytiajdmoppgpgnaa
/-
  The exact law on IsGhost, walked.
-/
namespace Go.Proofs.Ytiajdmoppgpgnaa
open Go.RowKit
set_option linter.unusedVariables false

set_option maxRecDepth 100000 in
set_option maxHeartbeats 4000000 in
theorem lawIsGhost_gen (a0 : Option Addr) (n0 c0 : Nat) (m0 : List (List Int)) (a1 : Option Addr) (n1 c1 : Nat) (l1 : List (Int × Int)) (w : World) (hin0 : InMat w (.slice a0 n0 c0) m0) (hin1 : InDrs w (.slice a1 n1 c1) l1) (v_0 : Bool) 
    (hs : ∀ (v0 v1 : Value) (w : World), InMat w v0 m0 → DrsC w v1 l1 → Calls Try.prog 29 #[v0, v1] w (fun e w' => e = .returned (.bool v_0) ∧ Below w.heap.size w w'))
    (hi : ∀ (v0 v1 : Value) (w : World), InMat w v0 m0 → DrsC w v1 l1 → Calls Try.prog 30 #[v0, v1] w (fun e w' => e = .returned (.bool v_0) ∧ Below w.heap.size w w')) :
    Calls Try.prog 5 #[.slice a0 n0 c0, .slice a1 n1 c1] w fun e w' => e = .returned (.bool true) ∧ Below w.heap.size w w' := by
  have HI0 := hide hin0
  obtain ⟨a', c', he, hm0, -⟩ := hin0
  cases he
  unfold maxLen at hm0
  have HI1 := hide hin1
  obtain ⟨a', c', he, hm1, -⟩ := hin1
  cases he
  unfold maxLen at hm1
  have hbb0 : (v_0 != v_0) = false := by cases v_0 <;> rfl
  go_enter Try.func5, Try.ntmps5
  go_wp2_with fail
  refine (szIntSS_any _ m0 (1048576) _ (by omega) HI0.out).mono ?_
  rintro e w1 ⟨q0, rfl, hq0, hb⟩
  have HB1 := hide (hb)
  have s1 := hb.size
  clear hb
  rcases hq0 with rfl | ⟨hsz0, rfl⟩
  · go_wp2
    go_ret
    exact ⟨rfl, HB1.out⟩
  · skip
    have HZ0 : Hid (m0.length + cellsM m0 ≤ 1048576) := hide (by omega)
    go_wp2_with fail
    refine (szDirectionS_any _ l1 (1048576 - m0.length - cellsM m0) _ (by omega) (inDrs_below HI1.out HB1.out)).mono ?_
    rintro e w2 ⟨q1, rfl, hq1, rfl⟩
    rcases hq1 with rfl | ⟨hsz1, rfl⟩
    · go_wp2
      go_ret
      exact ⟨rfl, HB1.out⟩
    · skip
      have HZ1 : Hid (l1.length ≤ 1048576) := hide (by omega)
      have HS := hide (hs); have HM := hide (hi)
      clear hs hi
      go_wp2_with fail
      refine (toIntSS_any _ m0 _ (by have := HZ0.out; omega) (inMat_below HI0.out HB1.out)).mono ?_
      rintro e w3 ⟨p0, rfl, ho, hb⟩
      have P0_3 := hide (ho)
      have HB3 := hide (HB1.out.trans (hb.mono HB1.out.size))
      have s3 := hb.size
      clear ho hb
      go_wp2_with fail
      refine (toDirectionS_any _ l1 _ (by have := HZ1.out; omega) (inDrs_below HI1.out HB3.out)).mono ?_
      rintro e w4 ⟨p1, rfl, ho, hb⟩
      have P0_4 := hide (ownMat_below P0_3.out hb)
      have P1L := hide (fun k e => World.ownsRow.lt (ho) k e)
      have P1_4 := hide (ho)
      have HB4 := hide (HB3.out.trans (hb.mono HB3.out.size))
      have s4 := hb.size
      clear ho hb
      go_wp2_with fail
      refine (HS.out p0 p1 _ (inMat_own P0_4.out) (drsC_own P1_4.out)).mono ?_
      rintro e w5 ⟨rfl, hb⟩
      have HB5 := hide (HB4.out.trans (hb.mono HB4.out.size))
      have s5 := hb.size
      clear hb
      go_wp2_with fail
      refine (toIntSS_any _ m0 _ (by have := HZ0.out; omega) (inMat_below HI0.out HB5.out)).mono ?_
      rintro e w6 ⟨x0, rfl, ho, hb⟩
      have X0_6 := hide (ho)
      have HB6 := hide (HB5.out.trans (hb.mono HB5.out.size))
      have s6 := hb.size
      clear ho hb
      go_wp2_with fail
      refine (toDirectionS_any _ l1 _ (by have := HZ1.out; omega) (inDrs_below HI1.out HB6.out)).mono ?_
      rintro e w7 ⟨x1, rfl, ho, hb⟩
      have X0_7 := hide (ownMat_below X0_6.out hb)
      have X1L := hide (fun k e => World.ownsRow.lt (ho) k e)
      have X1_7 := hide (ho)
      have HB7 := hide (HB6.out.trans (hb.mono HB6.out.size))
      have s7 := hb.size
      clear ho hb
      go_wp2_with fail
      refine (HM.out x0 x1 _ (inMat_own X0_7.out) (drsC_own X1_7.out)).mono ?_
      rintro e w8 ⟨rfl, hb⟩
      have X0_8 := hide (ownMat_below X0_7.out hb)
      have X1_8 := hide (ownDrs_below X1_7.out hb)
      have HB8 := hide (HB7.out.trans (hb.mono HB7.out.size))
      have s8 := hb.size
      clear hb
      go_wp2_with fail
      refine (toIntSS_any _ m0 _ (by have := HZ0.out; omega) (inMat_below HI0.out HB8.out)).mono ?_
      rintro e w9 ⟨z0, rfl, ho, hb⟩
      have X0_9 := hide (ownMat_below X0_8.out hb)
      have X1_9 := hide (ownDrs_below X1_8.out hb)
      have Z0_9 := hide (ho)
      have HB9 := hide (HB8.out.trans (hb.mono HB8.out.size))
      have s9 := hb.size
      clear ho hb
      go_wp2_with fail
      refine (eqIntSS_same x0 z0 m0 _ (inMat_own X0_9.out) (inMat_own Z0_9.out)).mono ?_
      rintro e w10 ⟨rfl, hb⟩
      have X0_10 := hide (ownMat_below X0_9.out hb)
      have X1_10 := hide (ownDrs_below X1_9.out hb)
      have HB10 := hide (HB9.out.trans (hb.mono HB9.out.size))
      have s10 := hb.size
      clear hb
      go_wp2_with fail
      refine (toDirectionS_any _ l1 _ (by have := HZ1.out; omega) (inDrs_below HI1.out HB10.out)).mono ?_
      rintro e w11 ⟨z1, rfl, ho, hb⟩
      have X0_11 := hide (ownMat_below X0_10.out hb)
      have X1_11 := hide (ownDrs_below X1_10.out hb)
      have Z1L := hide (fun k e => World.ownsRow.lt (ho) k e)
      have Z1_11 := hide (ho)
      have HB11 := hide (HB10.out.trans (hb.mono HB10.out.size))
      have s11 := hb.size
      clear ho hb
      go_wp2_with fail
      refine (eqDirectionS_same x1 z1 l1 _ (inDrs_own X1_11.out) (inDrs_own Z1_11.out)).mono ?_
      rintro e w12 ⟨rfl, hb⟩
      have X0_12 := hide (ownMat_below X0_11.out hb)
      have X1_12 := hide (ownDrs_below X1_11.out hb)
      have HB12 := hide (HB11.out.trans (hb.mono HB11.out.size))
      have s12 := hb.size
      clear hb
      go_wp2
      go_ret
      exact ⟨rfl, HB12.out⟩

theorem lawIsGhost_walk (a0 : Option Addr) (n0 c0 : Nat) (m0 : List (List Int)) (a1 : Option Addr) (n1 c1 : Nat) (l1 : List (Int × Int)) (w : World) (hin0 : InMat w (.slice a0 n0 c0) m0) (hin1 : InDrs w (.slice a1 n1 c1) l1) :
    Calls Try.prog 5 #[.slice a0 n0 c0, .slice a1 n1 c1] w fun e w' => e = .returned (.bool true) ∧ Below w.heap.size w w' :=
  lawIsGhost_gen a0 n0 c0 m0 a1 n1 c1 l1 w hin0 hin1 (ghostB m0 l1) (fun v0 v1 w h0 h1 => specIsGhost_any v0 v1 m0 l1 w h0 h1) (fun v0 v1 w h0 h1 => implIsGhost_any v0 v1 m0 l1 w h0 h1)
end Go.Proofs.Ytiajdmoppgpgnaa
/-
  grid.add of the program: a grid is added into another one.
-/
namespace Go.Proofs.Ytiajdmoppgpgnaa
open Go.RowKit
set_option maxRecDepth 100000

/-- A place in a variable. -/
def PlaceAt (w : World) (g : Nat) (y x : Int) : Prop := w.heap[g]? = some (.cells #[.int .i64 y, .int .i64 x] 90 (0, 0))
theorem placeAt_lt {w : World} {g : Nat} {y x : Int} (h : PlaceAt w g y x) : g < w.heap.size := (Array.getElem?_eq_some_iff.1 h).1
theorem placeAt_below {w w' : World} {g : Nat} {r c : Int} (h : PlaceAt w g r c) (hb : Below w.heap.size w w') : PlaceAt w' g r c := by
  unfold PlaceAt; rw [hb.block g (placeAt_lt h)]; exact h
theorem placeAt_cells {w : World} {g : Nat} {y x : Int} (h : PlaceAt w g y x) : w.cell? ⟨g, 0, none⟩ = some (.int .i64 y) ∧ w.cell? ⟨g, 1, none⟩ = some (.int .i64 x) :=
  ⟨by rw [cell_of_row w g 0 _ _ _ h]; rfl, by rw [cell_of_row w g 1 _ _ _ h]; rfl⟩
theorem placeAt_cell {w : World} {g : Nat} {y x : Int} (h : PlaceAt w g y x) (p : Addr) (v : Value) (hne : g ≠ p.block) : PlaceAt (w.setCell p v) g y x := by
  unfold PlaceAt; rw [heap_setCell_other w p g v hne]; exact h
theorem gridAt_cell {w : World} {g : Nat} {y x : Int} {u : Value} (h : GridAt w g y x u) (p : Addr) (v : Value) (hne : g ≠ p.block) : GridAt (w.setCell p v) g y x u := by
  unfold GridAt; rw [heap_setCell_other w p g v hne]; exact h
theorem exec_storeIntG {ρ : Operand → Value} {o : Oper} {w : World} {x y : Operand} {g k : Nat} {u v : Int} (ho : o.op = .store 3 x y) (hx : ρ x = .pointer (some ⟨g, k, none⟩)) (hy : ρ y = .int .i64 v) (h1 : w.cell? ⟨g, k, none⟩ = some (.int .i64 u)) (f1 : w.frozen? ⟨g, k, none⟩ = false) :
    (execOp ρ o).run Try.prog w = .ok .skip (w.setCell ⟨g, k, none⟩ (.int .i64 v)) := by
  unfold execOp
  simp only [ho, hx, hy]
  go_simp
/-- The numbers behind a rows of the other grid and b elements of the next one. -/
def addF (F G : Nat → Nat → Int) (fac : Int) (y0 x0 C2 a b : Nat) (y x : Nat) : Int :=
  if y0 ≤ y ∧ x0 ≤ x ∧ x < x0 + C2 ∧ (y < y0 + a ∨ (y = y0 + a ∧ x < x0 + b)) then IntKind.i64.wrap (F y x + IntKind.i64.wrap (fac * G (y - y0) (x - x0))) else F y x
theorem addF_zero (F G : Nat → Nat → Int) (fac : Int) (y0 x0 C2 : Nat) : addF F G fac y0 x0 C2 0 0 = F := by
  funext y x
  unfold addF
  rw [if_neg]
  omega
theorem addF_row (F G : Nat → Nat → Int) (fac : Int) (y0 x0 C2 a : Nat) : addF F G fac y0 x0 C2 a C2 = addF F G fac y0 x0 C2 (a + 1) 0 := by
  funext y x
  unfold addF
  by_cases h : y0 ≤ y ∧ x0 ≤ x ∧ x < x0 + C2 ∧ (y < y0 + a ∨ (y = y0 + a ∧ x < x0 + C2))
  · rw [if_pos h, if_pos (by omega)]
  · rw [if_neg h, if_neg (by omega)]
theorem addF_step (F G : Nat → Nat → Int) (fac : Int) (y0 x0 C2 a b : Nat) (hb : b < C2) :
    (fun i j => if i = y0 + a ∧ j = x0 + b then IntKind.i64.wrap (addF F G fac y0 x0 C2 a b (y0 + a) (x0 + b) + IntKind.i64.wrap (fac * G a b)) else addF F G fac y0 x0 C2 a b i j) = addF F G fac y0 x0 C2 a (b + 1) := by
  funext y x
  by_cases e : y = y0 + a ∧ x = x0 + b
  · obtain ⟨rfl, rfl⟩ := e
    rw [if_pos ⟨rfl, rfl⟩]
    unfold addF
    rw [if_neg (by omega), if_pos (by omega), show y0 + a - y0 = a by omega, show x0 + b - x0 = b by omega]
  · rw [if_neg e]
    unfold addF
    by_cases h : y0 ≤ y ∧ x0 ≤ x ∧ x < x0 + C2 ∧ (y < y0 + a ∨ (y = y0 + a ∧ x < x0 + b))
    · rw [if_pos h, if_pos (by omega)]
    · rw [if_neg h, if_neg (by omega)]
set_option maxHeartbeats 4000000 in
theorem add_any (p q : Value) (R C R2 C2 y0 x0 : Nat) (F G : Nat → Nat → Int) (fac : Int) (lo hi : Nat) (w0 w : World) (hp : OwnMat w lo hi p (mkM R C F)) (hq : InMat w0 q (mkM R2 C2 G)) (hB : Below w0.heap.size w0 w) (hlo : w0.heap.size ≤ lo) (hhi : hi ≤ w.heap.size)
    (hR : y0 + R2 ≤ R) (hC : x0 + C2 ≤ C) (hR2 : 1 ≤ R2) (hC2 : 1 ≤ C2) (hRm : R ≤ 100) (hCm : C ≤ 100) :
    Calls Try.prog 84 #[gridV R C p, gridV R2 C2 q, .int .i64 fac, .agg #[.int .i64 y0, .int .i64 x0]] w fun e w' => e = .returned (.tuple #[]) ∧ OwnMat w' lo hi p (mkM R C (addF F G fac y0 x0 C2 R2 0)) ∧ Within lo hi w w' := by
  obtain ⟨gq, oq, qc, rfl, hgq, hrow⟩ := inMat_img hq (by omega) (by omega)
  have HROW := hide hrow
  obtain ⟨gp, pc, rfl⟩ : ∃ gp pc, p = .slice (some ⟨gp, 0, none⟩) R pc := by
    obtain ⟨vs, ho, -⟩ := hp
    rcases ho.2 with ⟨e, h0⟩ | ⟨g', cap', cur, e, _⟩
    · rw [mkM_len] at h0; omega
    · rw [mkM_len] at e; exact ⟨_, _, e⟩
  have HO := hide hp; have HB := hide hB
  have HG1 : Hid (∀ w : World, GridAt (w.alloc (.cells #[.int .i64 R, .int .i64 C, .slice (some ⟨gp, 0, none⟩) R pc] 75)) w.heap.size R C (.slice (some ⟨gp, 0, none⟩) R pc)) := hide fun w => heap_alloc_new w _
  have HG2 : Hid (∀ w : World, GridAt (w.alloc (.cells #[.int .i64 R2, .int .i64 C2, .slice (some ⟨gq, oq, none⟩) R2 qc] 75)) w.heap.size R2 C2 (.slice (some ⟨gq, oq, none⟩) R2 qc)) := hide fun w => heap_alloc_new w _
  have HG3 : Hid (∀ w : World, PlaceAt (w.alloc (.cells #[.int .i64 y0, .int .i64 x0] 90)) w.heap.size y0 x0) := hide fun w => heap_alloc_new w _
  have HA : Hid (∀ (w : World) (o : Obj), Below w.heap.size w (w.alloc o)) := hide fun w o => (Below.refl _ _).alloc (Nat.le_refl _) o
  have H1 := hide (HG1.out w)
  have B1 := hide (HA.out w (.cells #[.int .i64 R, .int .i64 C, .slice (some ⟨gp, 0, none⟩) R pc] 75))
  obtain ⟨w1, hw1⟩ : ∃ w1, w1 = w.alloc (.cells #[.int .i64 R, .int .i64 C, .slice (some ⟨gp, 0, none⟩) R pc] 75) := ⟨_, rfl⟩
  have hz1 : w1.heap.size = w.heap.size + 1 := by rw [hw1]; simp
  rw [← hw1] at H1 B1
  have H2 := hide (HG2.out w1)
  have B2 := hide (HA.out w1 (.cells #[.int .i64 R2, .int .i64 C2, .slice (some ⟨gq, oq, none⟩) R2 qc] 75))
  obtain ⟨w2, hw2⟩ : ∃ w2, w2 = w1.alloc (.cells #[.int .i64 R2, .int .i64 C2, .slice (some ⟨gq, oq, none⟩) R2 qc] 75) := ⟨_, rfl⟩
  have hz2 : w2.heap.size = w.heap.size + 2 := by rw [hw2]; simp [hz1]
  rw [← hw2] at H2 B2
  have H3 := hide (HG3.out w2)
  have B3 := hide (HA.out w2 (.cells #[.int .i64 y0, .int .i64 x0] 90))
  obtain ⟨w3, hw3⟩ : ∃ w3, w3 = w2.alloc (.cells #[.int .i64 y0, .int .i64 x0] 90) := ⟨_, rfl⟩
  have hz3 : w3.heap.size = w.heap.size + 3 := by rw [hw3]; simp [hz2]
  rw [← hw3] at H3 B3
  have HW3 : Hid (w3 = ((w.alloc (.cells #[.int .i64 R, .int .i64 C, .slice (some ⟨gp, 0, none⟩) R pc] 75)).alloc (.cells #[.int .i64 R2, .int .i64 C2, .slice (some ⟨gq, oq, none⟩) R2 qc] 75)).alloc (.cells #[.int .i64 y0, .int .i64 x0] 90)) := hide (by rw [hw3, hw2, hw1])
  have K1 : Hid (GridAt w3 w.heap.size R C (.slice (some ⟨gp, 0, none⟩) R pc)) := hide (gridAt_below (gridAt_below H1.out B2.out) B3.out)
  have K2 : Hid (GridAt w3 (w.heap.size + 1) R2 C2 (.slice (some ⟨gq, oq, none⟩) R2 qc)) := hide (gridAt_below (by rw [← hz1]; exact H2.out) B3.out)
  have K3 : Hid (PlaceAt w3 (w.heap.size + 2) y0 x0) := hide (by rw [← hz2]; exact H3.out)
  have B12 := B1.out.trans (B2.out.mono B1.out.size)
  have KB := hide (B12.trans (B3.out.mono B12.size))
  have KO := hide (ownMat_below hp KB.out)
  have KZ := hide (Nat.le_of_eq hz3.symm)
  obtain ⟨q0, q1, q2⟩ := gridAt_cells K2.out
  clear hp hq hB hrow hw1 hw2 hw3 hz1 hz2 hz3 H1 H2 H3 B1 B2 B3 HG1 HG2 HG3 B12 HA HO
  have HZ0 := hide (addF_zero F G fac y0 x0 C2)
  have HRW := hide (addF_row F G fac y0 x0 C2)
  unfold gridV
  rw [HW3.out] at q0 q1 q2
  go_enter Try.func84, Try.ntmps84
  go_wp2
  rw [← HW3.out]
  clear q0 q1 q2 HW3
  go_loopw [15] (fun i w' => ∃ a : Nat, a ≤ R2 ∧ i = .int .i64 a ∧ OwnMat w' lo hi (.slice (some ⟨gp, 0, none⟩) R pc) (mkM R C (addF F G fac y0 x0 C2 a 0)) ∧ GridAt w' w.heap.size R C (.slice (some ⟨gp, 0, none⟩) R pc) ∧ GridAt w' (w.heap.size + 1) R2 C2 (.slice (some ⟨gq, oq, none⟩) R2 qc) ∧ PlaceAt w' (w.heap.size + 2) y0 x0 ∧ Within lo hi w w' ∧ w.heap.size + 3 ≤ w'.heap.size) (fun i _ => R2 - (intOf i).toNat)
  case atStart => exact ⟨0, Nat.zero_le _, rfl, by rw [HZ0.out]; exact KO.out, K1.out, K2.out, K3.out, within_below KB.out, KZ.out⟩
  case round =>
    clear K1 K2 K3 KB KO KZ
    obtain ⟨wo, rfl⟩ : ∃ wo, wo = wr := ⟨_, rfl⟩
    obtain ⟨a, ha, rfl, ho, h1, h2, h3, hw, hsz⟩ := hrel
    have HO := hide ho; have HG1 := hide h1; have HG2 := hide h2; have HG3 := hide h3; have HW := hide hw; have HSZ := hide hsz
    obtain ⟨q0, q1, q2⟩ := gridAt_cells h2
    clear ho h1 h2 h3 hw hsz
    by_cases hla : a < R2
    · have hlaI : (a : Int) < R2 := by omega
      obtain ⟨gs, os, cs, hcr, hgs, hcell⟩ := HROW.out a hla
      have HBW := hide (HB.out.trans (below_within HW.out hlo HB.out.size))
      have hcr := below_cell HBW.out hgq hcr
      have HCELL := hide hcell
      clear hcell
      go_wp2
      clear q0 q1 q2 hcr
      go_loopw [22] (fun i w' => ∃ b : Nat, b ≤ C2 ∧ i = .int .i64 b ∧ OwnMat w' lo hi (.slice (some ⟨gp, 0, none⟩) R pc) (mkM R C (addF F G fac y0 x0 C2 a b)) ∧ GridAt w' w.heap.size R C (.slice (some ⟨gp, 0, none⟩) R pc) ∧ GridAt w' (w.heap.size + 1) R2 C2 (.slice (some ⟨gq, oq, none⟩) R2 qc) ∧ PlaceAt w' (w.heap.size + 2) y0 x0 ∧ Within lo hi w w' ∧ w.heap.size + 3 ≤ w'.heap.size) (fun i _ => C2 - (intOf i).toNat)
      case atStart => exact ⟨0, Nat.zero_le _, rfl, HO.out, HG1.out, HG2.out, HG3.out, HW.out, HSZ.out⟩
      case round =>
        clear HO HG1 HG2 HG3 HW HSZ HBW
        obtain ⟨b, hb, rfl, ho, h1, h2, h3, hw, hsz⟩ := hrel
        have HO := hide ho; have HG1 := hide h1; have HG2 := hide h2; have HG3 := hide h3; have HW := hide hw; have HSZ := hide hsz
        clear ho h2 hw
        by_cases hlb : b < C2
        · have hlbI : (b : Int) < C2 := by omega
          have HBW := hide (HB.out.trans (below_within HW.out hlo HB.out.size))
          have hcx := below_cell HBW.out hgs (HCELL.out b hlb)
          obtain ⟨Y, hY⟩ : ∃ Y, Y = y0 + a := ⟨_, rfl⟩
          obtain ⟨X, hX⟩ : ∃ X, X = x0 + b := ⟨_, rfl⟩
          obtain ⟨gr, rc, hcrow, hcl, hfr, hgl, hgh, hset⟩ := ownMat_cell HO.out Y X (by omega) (by omega)
          have HSET := hide hset
          have HST := hide (addF_step F G fac y0 x0 C2 a b hlb)
          obtain ⟨p0, p1, p2⟩ := gridAt_cells h1
          obtain ⟨l0, l1⟩ := placeAt_cells h3
          obtain ⟨n, hn⟩ : ∃ n, n = G a b := ⟨_, rfl⟩
          obtain ⟨c, hc⟩ : ∃ c, c = addF F G fac y0 x0 C2 a b Y X := ⟨_, rfl⟩
          obtain ⟨mv, hmv⟩ : ∃ mv, mv = IntKind.i64.wrap (fac * n) := ⟨_, rfl⟩
          obtain ⟨sv, hsv⟩ : ∃ sv, sv = IntKind.i64.wrap (c + mv) := ⟨_, rfl⟩
          have hmv2 := hmv.symm
          have hsv2 := hsv.symm
          rw [← hY, ← hX, ← hc, ← hn, ← hmv, ← hsv] at HST
          rw [← hn] at hcx
          rw [← hc] at hcl
          have hyI : (y0 : Int) + (a : Int) = (Y : Int) := by omega
          have hxI : (x0 : Int) + (b : Int) = (X : Int) := by omega
          have hyR : (Y : Int) < R := by omega
          have hxC : (X : Int) < C := by omega
          have hyW : IntKind.i64.wrap (Y : Int) = Y := IntWalk.i64_in _ (by omega)
          have hxW : IntKind.i64.wrap (X : Int) = X := IntWalk.i64_in _ (by omega)
          clear hY hX
          clear h1 h3 hset hn hc hmv hsv
          go_upto_region 7 with fail
          obtain ⟨fs, hfs⟩ : ∃ fs : List FactP, fs = [(isV (.pointer (some ⟨w.heap.size, 2, none⟩))), (isV (.slice (some ⟨gp, 0, none⟩) R pc)), (isV (.pointer (some ⟨w.heap.size + 2, 0, none⟩))), (isV (.int .i64 ((y0 : Int)))), (isV (.int .i64 ((a : Int)))), (isV (.int .i64 ((Y : Int)))), (isV (.pointer (some ⟨gp, Y, none⟩))), (isV (.slice (some ⟨gr, 0, none⟩) C rc)), (isV (.pointer (some ⟨w.heap.size + 2, 1, none⟩))), (isV (.int .i64 ((x0 : Int)))), (isV (.int .i64 ((b : Int)))), (isV (.int .i64 ((X : Int)))), (isV (.pointer (some ⟨gr, X, none⟩))), (isV (.int .i64 (c))), (isV (.int .i64 (fac))), (isV (.int .i64 (n))), (isV (.int .i64 (mv))), (isV (.int .i64 (sv))), (isV (.pointer (some ⟨gr, X, none⟩)))] := ⟨_, rfl⟩
          have hst : ∀ f ∈ fs, StableP f := by
            rw [hfs]; intro f hf
            simp only [List.mem_cons, List.not_mem_nil, or_false] at hf
            rcases hf with rfl | rfl | rfl | rfl | rfl | rfl | rfl | rfl | rfl | rfl | rfl | rfl | rfl | rfl | rfl | rfl | rfl | rfl | rfl <;> exact stable_v _
          subst hfs
          refine wp_region_g (S := fun w2 => w2 = wr.drew) [(isV (.pointer (some ⟨w.heap.size, 2, none⟩))), (isV (.slice (some ⟨gp, 0, none⟩) R pc)), (isV (.pointer (some ⟨w.heap.size + 2, 0, none⟩))), (isV (.int .i64 ((y0 : Int)))), (isV (.int .i64 ((a : Int)))), (isV (.int .i64 ((Y : Int)))), (isV (.pointer (some ⟨gp, Y, none⟩))), (isV (.slice (some ⟨gr, 0, none⟩) C rc)), (isV (.pointer (some ⟨w.heap.size + 2, 1, none⟩))), (isV (.int .i64 ((x0 : Int)))), (isV (.int .i64 ((b : Int)))), (isV (.int .i64 ((X : Int)))), (isV (.pointer (some ⟨gr, X, none⟩))), (isV (.int .i64 (c))), (isV (.int .i64 (fac))), (isV (.int .i64 (n))), (isV (.int .i64 (mv))), (isV (.int .i64 (sv))), (isV (.pointer (some ⟨gr, X, none⟩)))] [(2, .int .i64 (fac)), (4, .pointer (some ⟨w.heap.size, 0, none⟩)), (7, .pointer (some ⟨w.heap.size + 2, 0, none⟩)), (8, .int .i64 ((a : Int))), (10, .int .i64 ((b : Int))), (11, .int .i64 (n))] _ _ 19 (by kernel_rfl) rfl rfl (by kernel_rfl) (by kernel_rfl) rfl (by kernel_rfl) ?base rfl ?ob rfl ?fin
          case base =>
            intro t v ht
            simp only [List.lookup_cons, List.lookup_nil] at ht
            repeat' split at ht
            all_goals first | (cases ht; done) | (obtain rfl := Option.some.inj ht; rename_i hh; obtain rfl := eq_of_beq hh; rfl)
          case ob =>
            exact ⟨obg_of rfl (obt_one (.pointer (some ⟨w.heap.size, 2, none⟩)) rfl rfl (srt_b 4 rfl) (fun ρ w2 hS hx => by subst hS; go_simp)),
              obg_of rfl (obt_one (.slice (some ⟨gp, 0, none⟩) R pc) rfl rfl (srt_j 0 rfl (by kernel_rfl) rfl) (fun ρ w2 hS hx => by subst hS; go_simp)),
              obg_of rfl (obt_one (.pointer (some ⟨w.heap.size + 2, 0, none⟩)) rfl rfl (srt_b 7 rfl) (fun ρ w2 hS hx => by subst hS; go_simp)),
              obg_of rfl (obt_one (.int .i64 ((y0 : Int))) rfl rfl (srt_j 2 rfl (by kernel_rfl) rfl) (fun ρ w2 hS hx => by subst hS; go_simp)),
              obg_of rfl (obt_move (.int .i64 ((a : Int))) rfl rfl rfl (srt_b 8 rfl)),
              obg_of rfl (obt_two (.int .i64 ((Y : Int))) rfl rfl (srt_j 3 rfl (by kernel_rfl) rfl) (srt_j 4 rfl (by kernel_rfl) rfl) (fun ρ w2 hS hx hy => by subst hS; go_simp)),
              obg_of rfl (obt_two (.pointer (some ⟨gp, Y, none⟩)) rfl rfl (srt_j 1 rfl (by kernel_rfl) rfl) (srt_j 5 rfl (by kernel_rfl) rfl) (fun ρ w2 hS hx hy => by subst hS; go_simp)),
              obg_of rfl (obt_one (.slice (some ⟨gr, 0, none⟩) C rc) rfl rfl (srt_j 6 rfl (by kernel_rfl) rfl) (fun ρ w2 hS hx => by subst hS; go_simp)),
              obg_of rfl (obt_one (.pointer (some ⟨w.heap.size + 2, 1, none⟩)) rfl rfl (srt_b 7 rfl) (fun ρ w2 hS hx => by subst hS; go_simp)),
              obg_of rfl (obt_one (.int .i64 ((x0 : Int))) rfl rfl (srt_j 8 rfl (by kernel_rfl) rfl) (fun ρ w2 hS hx => by subst hS; go_simp)),
              obg_of rfl (obt_move (.int .i64 ((b : Int))) rfl rfl rfl (srt_b 10 rfl)),
              obg_of rfl (obt_two (.int .i64 ((X : Int))) rfl rfl (srt_j 9 rfl (by kernel_rfl) rfl) (srt_j 10 rfl (by kernel_rfl) rfl) (fun ρ w2 hS hx hy => by subst hS; go_simp)),
              obg_of rfl (obt_two (.pointer (some ⟨gr, X, none⟩)) rfl rfl (srt_j 7 rfl (by kernel_rfl) rfl) (srt_j 11 rfl (by kernel_rfl) rfl) (fun ρ w2 hS hx hy => by subst hS; go_simp)),
              obg_of rfl (obt_one (.int .i64 (c)) rfl rfl (srt_j 12 rfl (by kernel_rfl) rfl) (fun ρ w2 hS hx => by subst hS; go_simp)),
              obg_of rfl (obt_move (.int .i64 (fac)) rfl rfl rfl (srt_b 2 rfl)),
              obg_of rfl (obt_move (.int .i64 (n)) rfl rfl rfl (srt_b 11 rfl)),
              obg_of rfl (obt_two (.int .i64 (mv)) rfl rfl (srt_j 14 rfl (by kernel_rfl) rfl) (srt_j 15 rfl (by kernel_rfl) rfl) (fun ρ w2 hS hx hy => by subst hS; go_simp)),
              obg_of rfl (obt_two (.int .i64 (sv)) rfl rfl (srt_j 13 rfl (by kernel_rfl) rfl) (srt_j 16 rfl (by kernel_rfl) rfl) (fun ρ w2 hS hx hy => by subst hS; go_simp)),
              obg_of rfl (obt_two (.pointer (some ⟨gr, X, none⟩)) rfl rfl (srt_j 7 rfl (by kernel_rfl) rfl) (srt_j 11 rfl (by kernel_rfl) rfl) (fun ρ w2 hS hx hy => by subst hS; go_simp)),
              trivial⟩
          case fin =>
            intro a' w' h1 h2 h3 hS h4 K hK
            have ha := frame_ov rfl h1 h2 h3 [(27, .pointer (some ⟨w.heap.size, 2, none⟩)), (28, .slice (some ⟨gp, 0, none⟩) R pc), (29, .pointer (some ⟨w.heap.size + 2, 0, none⟩)), (30, .int .i64 ((y0 : Int))), (31, .int .i64 ((a : Int))), (32, .int .i64 ((Y : Int))), (33, .pointer (some ⟨gp, Y, none⟩)), (34, .slice (some ⟨gr, 0, none⟩) C rc), (35, .pointer (some ⟨w.heap.size + 2, 1, none⟩)), (36, .int .i64 ((x0 : Int))), (37, .int .i64 ((b : Int))), (38, .int .i64 ((X : Int))), (39, .pointer (some ⟨gr, X, none⟩)), (40, .int .i64 (c)), (41, .int .i64 (fac)), (42, .int .i64 (n)), (43, .int .i64 (mv)), (44, .int .i64 (sv)), (45, .pointer (some ⟨gr, X, none⟩))] (by kernel_rfl) ⟨h4 0 27 rfl (by decide), h4 1 28 rfl (by decide), h4 2 29 rfl (by decide), h4 3 30 rfl (by decide), h4 4 31 rfl (by decide), h4 5 32 rfl (by decide), h4 6 33 rfl (by decide), h4 7 34 rfl (by decide), h4 8 35 rfl (by decide), h4 9 36 rfl (by decide), h4 10 37 rfl (by decide), h4 11 38 rfl (by decide), h4 12 39 rfl (by decide), h4 13 40 rfl (by decide), h4 14 41 rfl (by decide), h4 15 42 rfl (by decide), h4 16 43 rfl (by decide), h4 17 44 rfl (by decide), h4 18 45 rfl (by decide), trivial⟩
            dsimp only [ov, List.lookup, Nat.reduceBEq, Nat.reduceAdd] at ha
            have v45 : a'.tmps.getD 45 undef = .pointer (some ⟨gr, X, none⟩) := h4 18 45 rfl (by decide)
            have v44 : a'.tmps.getD 44 undef = .int .i64 (sv) := h4 17 44 rfl (by decide)
            subst hS
            refine run_skip (exec_storeIntG (u := c) rfl v45 v44 hcl hfr) (hK undef _ ?_)
            show Exit.inBlock _ _ Exit.normal a' _
            have E1 : Hid (OwnMat (wr.drew.setCell ⟨gr, X, none⟩ (.int .i64 sv)) lo hi (.slice (some ⟨gp, 0, none⟩) R pc) (mkM R C (addF F G fac y0 x0 C2 a (b + 1)))) := hide (by have := HSET.out sv; rw [HST.out] at this; exact this)
            have E2 : Hid (GridAt (wr.drew.setCell ⟨gr, X, none⟩ (.int .i64 sv)) w.heap.size R C (.slice (some ⟨gp, 0, none⟩) R pc)) := hide (gridAt_cell HG1.out _ _ (by simp; omega))
            have E3 : Hid (GridAt (wr.drew.setCell ⟨gr, X, none⟩ (.int .i64 sv)) (w.heap.size + 1) R2 C2 (.slice (some ⟨gq, oq, none⟩) R2 qc)) := hide (gridAt_cell HG2.out _ _ (by simp; omega))
            have E4 : Hid (PlaceAt (wr.drew.setCell ⟨gr, X, none⟩ (.int .i64 sv)) (w.heap.size + 2) y0 x0) := hide (placeAt_cell HG3.out _ _ (by simp; omega))
            have E5 : Hid (Within lo hi w (wr.drew.setCell ⟨gr, X, none⟩ (.int .i64 sv))) := hide (within_trans HW.out ⟨rfl, rfl, rfl, by simp, fun k hk hne => heap_setCell_other _ _ _ _ (fun e => by simp at e; omega)⟩)
            have E6 : Hid (w.heap.size + 3 ≤ (wr.drew.setCell ⟨gr, X, none⟩ (.int .i64 sv)).heap.size) := hide (by simp; exact HSZ.out)
            clear v44 v45
            generalize wr.drew.setCell ⟨gr, X, none⟩ (.int .i64 sv) = w9 at E1 E2 E3 E4 E5 E6 ⊢
            rw [ha]
            clear ha h1 h2 h3 h4 hst hK
            go_wp2
            go_roundw
            case rel => exact ⟨b + 1, by omega, by go_num, E1.out, E2.out, E3.out, E4.out, E5.out, E6.out⟩
            case measure => simp [intOf]; omega
        · obtain rfl : b = C2 := by omega
          go_wp2
          go_roundw
          case rel => exact ⟨a + 1, by omega, by go_num, by rw [← HRW.out a]; exact HO.out, HG1.out, HG2.out, HG3.out, HW.out, HSZ.out⟩
          case measure => simp [intOf]; omega
    · obtain rfl : a = R2 := by omega
      go_wp2
      exact bodyPost_end (v := .tuple #[]) (by simp [results, Try.results84]) rfl ⟨rfl, HO.out, HW.out⟩
end Go.Proofs.Ytiajdmoppgpgnaa
/-
  grid.lessShifted of the program: a grid minus its shifted copy.
-/
namespace Go.Proofs.Ytiajdmoppgpgnaa
open Go.RowKit Go.Katz
set_option maxRecDepth 100000

/-- max(0, -dy) and max(0, dy). -/
def dnN (dy : Int) : Nat := (max 0 (-dy)).toNat
def upN (dy : Int) : Nat := (max 0 dy).toNat
/-- The grid minus its shifted copy, as the program reckons it. -/
def lsF (R C : Nat) (G : Nat → Nat → Int) (dx dy : Int) : Nat → Nat → Int := addF (addF (fun _ _ => 0) G 1 (dnN dy) 0 C R 0) G (-1) (upN dy) dx.toNat C R 0
theorem add_at (y x : Int) (p q : Value) (R C R2 C2 y0 x0 : Nat) (F G : Nat → Nat → Int) (fac : Int) (lo hi : Nat) (w0 w : World) (hy : y = (y0 : Int)) (hx : x = (x0 : Int)) (hp : OwnMat w lo hi p (mkM R C F)) (hq : InMat w0 q (mkM R2 C2 G)) (hB : Below w0.heap.size w0 w) (hlo : w0.heap.size ≤ lo) (hhi : hi ≤ w.heap.size)
    (hR : y0 + R2 ≤ R) (hC : x0 + C2 ≤ C) (hR2 : 1 ≤ R2) (hC2 : 1 ≤ C2) (hRm : R ≤ 100) (hCm : C ≤ 100) :
    Calls Try.prog 84 #[.agg #[.int .i64 R, .int .i64 C, p], .agg #[.int .i64 R2, .int .i64 C2, q], .int .i64 fac, .agg #[.int .i64 y, .int .i64 x]] w fun e w' => e = .returned (.tuple #[]) ∧ OwnMat w' lo hi p (mkM R C (addF F G fac y0 x0 C2 R2 0)) ∧ Within lo hi w w' := by
  subst hy; subst hx
  exact add_any p q R C R2 C2 y0 x0 F G fac lo hi w0 w hp hq hB hlo hhi hR hC hR2 hC2 hRm hCm
set_option maxHeartbeats 4000000 in
theorem lessShifted_any (q : Value) (R C : Nat) (G : Nat → Nat → Int) (dx dy : Int) (w : World) (hq : InMat w q (mkM R C G)) (hn : Near dx dy) (hR : 1 ≤ R ∧ R ≤ 20) (hC : 1 ≤ C ∧ C ≤ 20) :
    Calls Try.prog 78 #[gridV R C q, .agg #[.int .i64 dx, .int .i64 dy]] w (GridRes (R + (tallD (dx, dy)).toNat) (C + dx.toNat) (lsF R C G dx dy) w) := by
  have HQ := hide hq
  obtain ⟨qa, qn, qc, rfl⟩ : ∃ a n c, q = .slice a n c := by
    obtain ⟨a, c, h, -⟩ := hq
    exact ⟨a, _, c, h⟩
  have HNR := hide hn
  obtain ⟨n1, n2, n3, n4⟩ := hn
  obtain ⟨A, hA⟩ : ∃ A, A = dnN dy := ⟨_, rfl⟩
  obtain ⟨B, hB⟩ : ∃ B, B = upN dy := ⟨_, rfl⟩
  obtain ⟨X, hX⟩ : ∃ X, X = dx.toNat := ⟨_, rfl⟩
  obtain ⟨U, hU⟩ : ∃ U, U = (tallD (dx, dy)).toNat := ⟨_, rfl⟩
  have hXI : dx = (X : Int) := by omega
  have HTI : Hid (tallD (dx, dy) = (U : Int)) := hide (by rw [hU]; have := tallD_max (dx, dy); simp only at this; omega)
  have HA : Hid ((0 < -dy → -dy = (A : Int)) ∧ (¬ 0 < -dy → 0 = (A : Int))) := hide (by rw [hA, dnN]; omega)
  have HB : Hid ((0 < dy → dy = (B : Int)) ∧ (¬ 0 < dy → 0 = (B : Int))) := hide (by rw [hB, upN]; omega)
  have hAU : A ≤ U ∧ B ≤ U := by
    rw [hA, hB, hU, dnN, upN, ← tallD_max]; simp only; omega
  obtain ⟨hAU, hBU⟩ := hAU
  have HLS : Hid (lsF R C G dx dy = addF (addF (fun _ _ => 0) G 1 A 0 C R 0) G (-1) B X C R 0) := hide (by rw [lsF, hA, hB, hX])
  have hU3 : U ≤ 3 := by rw [hU]; have := tallD_max (dx, dy); simp only at this; omega
  have l1 : IntKind.i64.wrap (-dy) = -dy := IntWalk.i64_in _ (by omega)
  rw [HLS.out]
  rw [← hU, ← hX]
  obtain ⟨R', hR'⟩ : ∃ R', R' = R + U := ⟨_, rfl⟩
  obtain ⟨C', hC'⟩ : ∃ C', C' = C + X := ⟨_, rfl⟩
  have HRU : Hid ((R : Int) + (U : Int) = (R' : Int)) := hide (by omega)
  have HCX : Hid ((C : Int) + (X : Int) = (C' : Int)) := hide (by omega)
  rw [← hR', ← hC']
  have hR1 : R + U ≤ R' := by omega
  have hR2 : R' ≤ 23 := by omega
  have hC1 : C + X ≤ C' := by omega
  have hC2 : C' ≤ 23 := by omega
  clear hA hB hX hU HLS hq hR' hC'
  subst hXI
  have HAL : Hid (∀ (w : World) (o : Obj), Below w.heap.size w (w.alloc o)) := hide fun w o => (Below.refl _ _).alloc (Nat.le_refl _) o
  have HGN : Hid (∀ (w : World) (r c : Int) (a : Option Addr) (n k : Nat), GridAt (w.alloc (.cells #[.int .i64 r, .int .i64 c, .slice a n k] 75)) w.heap.size r c (.slice a n k)) := hide fun w _ _ _ _ _ => heap_alloc_new w _
  have HDN : Hid (∀ w : World, DirAt (w.alloc (.cells #[.int .i64 (X : Int), .int .i64 dy] 36)) w.heap.size X dy) := hide fun w => heap_alloc_new w _
  obtain ⟨wa, hwa⟩ : ∃ wa, wa = w.alloc (.cells #[.int .i64 R, .int .i64 C, .slice qa qn qc] 75) := ⟨_, rfl⟩
  obtain ⟨wb, hwb⟩ : ∃ wb, wb = wa.alloc (.cells #[.int .i64 (X : Int), .int .i64 dy] 36) := ⟨_, rfl⟩
  obtain ⟨wc, hwc⟩ : ∃ wc, wc = wb.alloc (.cells #[.int .i64 0, .int .i64 0, .slice none 0 0] 75) := ⟨_, rfl⟩
  have za : wa.heap.size = w.heap.size + 1 := by rw [hwa]; simp
  have zb : wb.heap.size = w.heap.size + 2 := by rw [hwb]; simp [za]
  have zc : wc.heap.size = w.heap.size + 3 := by rw [hwc]; simp [zb]
  have hba : Below w.heap.size w wa := by rw [hwa]; exact HAL.out _ _
  have hbb : Below wa.heap.size wa wb := by rw [hwb]; exact HAL.out _ _
  have hbc : Below wb.heap.size wb wc := by rw [hwc]; exact HAL.out _ _
  have hbbc := hbb.trans (hbc.mono hbb.size)
  have G1 := hide (gridAt_below (show GridAt wa w.heap.size R C (.slice qa qn qc) by rw [hwa]; exact HGN.out _ _ _ _ _ _) hbbc)
  have D1 := hide (dirAt_below (show DirAt wb (w.heap.size + 1) X dy by rw [← za, hwb]; exact HDN.out _) hbc)
  have Z1 := hide (show GridAt wc (w.heap.size + 2) 0 0 (.slice none 0 0) by rw [← zb, hwc]; exact HGN.out _ _ _ _ _ _)
  have BC := hide (hba.trans (hbbc.mono hba.size))
  have HWC : Hid (wc = ((w.alloc (.cells #[.int .i64 R, .int .i64 C, .slice qa qn qc] 75)).alloc (.cells #[.int .i64 (X : Int), .int .i64 dy] 36)).alloc (.cells #[.int .i64 0, .int .i64 0, .slice none 0 0] 75)) := hide (by rw [hwc, hwb, hwa])
  have HZC := hide zc
  clear hwa hwb hwc za zb zc hba hbb hbc hbbc
  unfold gridV
  have hcase : (0 < -dy ∧ ¬ 0 < dy) ∨ (¬ 0 < -dy ∧ ¬ 0 < dy) ∨ (¬ 0 < -dy ∧ 0 < dy) := by omega
  rcases hcase with ⟨p1, p2⟩ | ⟨p1, p2⟩ | ⟨p1, p2⟩
  all_goals
    go_enter Try.func78, Try.ntmps78
    go_wp2_with (first | ((with_reducible refine (grownBy_any R C X dy _ (by omega) (by omega) HNR.out).mono ?_); rw [HTI.out, ← HWC.out, HRU.out, HCX.out]; rintro e w1 ⟨rfl, hb⟩; have G2 := hide (gridAt_below G1.out hb); have D2 := hide (dirAt_below D1.out hb); have Z2 := hide (gridAt_below Z1.out hb); have B2 := hide (BC.out.trans (hb.mono BC.out.size)); have s2 := hb.size; clear hb) | ((with_reducible refine (zeroGrid_any R' C' _ (by omega) (by omega)).mono ?_); rintro e w3 ⟨x, rfl, ho, hb⟩; obtain ⟨xa, xn, xc, rfl⟩ := ownMat_slice ho; dsimp only [gridV]; have G3 := hide (gridAt_below G2.out hb); have D3 := hide (dirAt_below D2.out hb); have Z3 := hide (gridAt_below Z2.out hb); have B3 := hide (B2.out.trans (hb.mono B2.out.size)); have s3 := hb.size; have O3 := hide ho; obtain ⟨w4, hw4⟩ : ∃ w4, w4 = w3.alloc (.cells #[.int .i64 R', .int .i64 C', .slice xa xn xc] 75) := ⟨_, rfl⟩; have hal : Below w3.heap.size w3 w4 := (by rw [hw4]; exact HAL.out _ _); have Y4 := hide (show GridAt w4 w3.heap.size R' C' (.slice xa xn xc) by rw [hw4]; exact HGN.out _ _ _ _ _ _); have O4 := hide (ownMat_below O3.out hal); have G4 := hide (gridAt_below G3.out hal); have D4 := hide (dirAt_below D3.out hal); have Z4 := hide (gridAt_below Z3.out hal); have B4 := hide (B3.out.trans (hal.mono B3.out.size)); have s4 := hal.size; have HW4 := hide hw4; obtain ⟨g0, g1, g2⟩ := gridAt_cells G4.out; obtain ⟨y0, y1, y2⟩ := gridAt_cells Y4.out; obtain ⟨d0, d1⟩ := drC_at D4.out; rw [hw4] at g0 g1 g2 y0 y1 y2 d0 d1; clear hb ho hal hw4))
    rw [← HW4.out]
    refine (add_at _ 0 _ _ R' C' R C A 0 (fun _ _ => 0) G 1 w1.heap.size w3.heap.size w w4 (by first | exact HA.out.1 p1 | exact HA.out.2 p1) rfl O4.out HQ.out B4.out (by have := B2.out.size; omega) s4 (by omega) (by omega) (by omega) (by omega) (by omega) (by omega)).mono ?_
    rintro e w5 ⟨rfl, ho, hw⟩
    have O5 := hide ho
    have G5 := hide (gridAt_within G4.out hw (.inl (by have := B2.out.size; have := HZC.out; omega)))
    have Y5 := hide (gridAt_within Y4.out hw (.inr (Nat.le_refl _)))
    have Z5 := hide (gridAt_within Z4.out hw (.inl (by have := B2.out.size; have := HZC.out; omega)))
    have hdl := (Array.getElem?_eq_some_iff.1 D4.out).1
    have D5 := hide (show DirAt w5 (w.heap.size + 1) X dy by unfold DirAt; rw [hw.block _ hdl (.inl (by have := B2.out.size; have := HZC.out; omega))]; exact D4.out)
    have B5 := hide (B4.out.trans (below_within hw (by have := B2.out.size; omega) B4.out.size))
    have s5 := hw.size
    clear ho hw g0 g1 g2 y0 y1 y2 d0 d1 O4 G4 Y4 Z4 D4
    obtain ⟨g0, g1, g2⟩ := gridAt_cells G5.out
    obtain ⟨y0, y1, y2⟩ := gridAt_cells Y5.out
    obtain ⟨d0, d1⟩ := drC_at D5.out
    simp only at d0 d1
    go_wp2_with fail
    refine (add_at _ _ _ _ R' C' R C B X _ G (-1) w1.heap.size w3.heap.size w w5 (by first | exact HB.out.1 p2 | exact HB.out.2 p2) rfl O5.out HQ.out B5.out (by have := B2.out.size; omega) (by omega) (by omega) (by omega) (by omega) (by omega) (by omega) (by omega)).mono ?_
    rintro e w6 ⟨rfl, ho, hw⟩
    have Y6 := hide (gridAt_within Y5.out hw (.inr (Nat.le_refl _)))
    have Z6 := hide (gridAt_within Z5.out hw (.inl (by have := B2.out.size; have := HZC.out; omega)))
    have B6 := hide (B5.out.trans (below_within hw (by have := B2.out.size; omega) B5.out.size))
    have O6 := hide ho
    have s6 := hw.size
    clear ho hw g0 g1 g2 y0 y1 y2 d0 d1 O5 G5 Y5 Z5 D5
    go_wp2_with (first | (with_reducible refine wpList_loadGr Y6.out rfl _ rfl rfl ?_) | ((with_reducible refine wpList_storeGr Z6.out R' C' (.slice xa xn xc) rfl rfl _ _ rfl rfl rfl ?_); intro w7 hs hg7 hz; have HS7 := hide hs; have HG7 := hide hg7; have hz7 := hz; have B7 := hide (B6.out.trans (grown_below hg7 (fun q hq => by cases hq; omega) B6.out.size)); clear hs hg7 hz))
    obtain ⟨q0, q1, q2⟩ := gridAt_cells HS7.out
    have HOF := hide (ownMat_mono (lo' := w.heap.size) (hi' := w7.heap.size) (ownMat_within (lo' := w.heap.size + 2) (hi' := w.heap.size + 3) O6.out (within_grown HG7.out (fun q e => by cases e; omega)) (.inr (by have := B2.out.size; have := HZC.out; omega))) (by have := B2.out.size; omega) (by omega))
    refine bodyPost_ret (v := gridV R' C' (.slice xa xn xc)) ?_ rfl ⟨_, rfl, HOF.out, B7.out⟩
    simp [results, Try.results78, go_sem, q0, q1, q2, gridV]
end Go.Proofs.Ytiajdmoppgpgnaa
/-
  PURE: what the program's shifted subtraction and the ghost's have in common.
-/
namespace Go.Proofs.Ytiajdmoppgpgnaa
open Go.RowKit Go.Katz

theorem wrap_small {z : Int} (h : -100000 ≤ z ∧ z ≤ 100000) : IntKind.i64.wrap z = z := IntWalk.i64_in _ (by omega)
/-- A grid's elements are at most b. -/
def GOK (g : Grid) (b : Nat) : Prop := ∀ y x, (g.at y x).natAbs ≤ b
theorem gok_at {g : Grid} {b : Nat} (h : GOK g b) {y x : Nat} (hy : y < g.R) (hx : x < g.C) : (g.f y x).natAbs ≤ b := by
  have := h y x
  unfold Grid.at box at this
  rw [if_pos (by omega)] at this
  simpa using this
theorem gok_minus {g : Grid} {b : Nat} (h : GOK g b) {d : Int × Int} (hd : 0 ≤ d.1) : GOK (g.minus d) (2 * b) := fun y x => by
  rw [minus_at g d hd]
  exact mns_small h _ _
theorem at_in {g : Grid} {y x : Int} (h : 0 ≤ y ∧ y < g.R ∧ 0 ≤ x ∧ x < g.C) : g.at y x = g.f y.toNat x.toNat := if_pos h
theorem at_out {g : Grid} {y x : Int} (h : ¬ (0 ≤ y ∧ y < g.R ∧ 0 ≤ x ∧ x < g.C)) : g.at y x = 0 := if_neg h
theorem addF_val (F G : Nat → Nat → Int) (fac : Int) (y0 x0 C2 R2 y x : Nat) :
    addF F G fac y0 x0 C2 R2 0 y x = if y0 ≤ y ∧ y < y0 + R2 ∧ x0 ≤ x ∧ x < x0 + C2 then IntKind.i64.wrap (F y x + IntKind.i64.wrap (fac * G (y - y0) (x - x0))) else F y x := by
  unfold addF
  by_cases h : y0 ≤ y ∧ y < y0 + R2 ∧ x0 ≤ x ∧ x < x0 + C2
  · rw [if_pos (by omega), if_pos h]
  · rw [if_neg (by omega), if_neg h]
theorem lsF_minus {g : Grid} {b : Nat} (hg : GOK g b) (hb : b ≤ 1000) {dx dy : Int} (hd : 0 ≤ dx) (y x : Nat) : lsF g.R g.C g.f dx dy y x = (g.minus (dx, dy)).f y x := by
  have hA : ((dnN dy : Nat) : Int) = down dy := by unfold dnN down; split <;> omega
  have hB : ((upN dy : Nat) : Int) = down dy + dy := by unfold upN down; split <;> omega
  have hX : ((dx.toNat : Nat) : Int) = dx := by omega
  generalize dnN dy = A at hA
  have e1 : addF (fun _ _ => 0) g.f 1 A 0 g.C g.R 0 y x = g.at ((y : Int) - A) x := by
    rw [addF_val]
    by_cases h : A ≤ y ∧ y < A + g.R ∧ 0 ≤ x ∧ x < 0 + g.C
    · rw [if_pos h, at_in (by omega)]
      have := gok_at hg (y := y - A) (x := x - 0) (by omega) (by omega)
      rw [show ((y : Int) - A).toNat = y - A by omega, show ((x : Int)).toNat = x - 0 by omega]
      generalize g.f (y - A) (x - 0) = q at this
      rw [Int.one_mul, wrap_small (z := q) (by omega), Int.zero_add, wrap_small (z := q) (by omega)]
    · rw [if_neg h, at_out (by omega)]
  show addF (addF (fun _ _ => 0) g.f 1 (dnN dy) 0 g.C g.R 0) g.f (-1) (upN dy) dx.toNat g.C g.R 0 y x = g.at ((y : Int) - down dy) x - g.at ((y : Int) - down dy - dy) ((x : Int) - dx)
  have e2 : dnN dy = A := by unfold dnN; unfold down at hA; split at hA <;> omega
  rw [e2, addF_val, e1, hA]
  have hs := hg ((y : Int) - down dy) x
  generalize g.at ((y : Int) - down dy) x = P at hs
  generalize upN dy = B at hB
  generalize dx.toNat = X at hX
  by_cases h : B ≤ y ∧ y < B + g.R ∧ X ≤ x ∧ x < X + g.C
  · rw [if_pos h, at_in (y := (y : Int) - down dy - dy) (by omega)]
    have := gok_at hg (y := y - B) (x := x - X) (by omega) (by omega)
    rw [show ((y : Int) - down dy - dy).toNat = y - B by omega, show ((x : Int) - dx).toNat = x - X by omega]
    generalize g.f (y - B) (x - X) = q at this
    rw [wrap_small (z := -1 * q) (by omega), wrap_small (z := P + -1 * q) (by omega)]
    omega
  · rw [if_neg h, at_out (y := (y : Int) - down dy - dy) (by omega), Int.sub_zero]

/-- The ghost as it is built. -/
def ghG (l : List (Int × Int)) : Grid := Grid.ghost l ⟨1, 1, fun _ _ => 1⟩
theorem ghG_snoc (l : List (Int × Int)) (d : Int × Int) : ghG (l ++ [d]) = (ghG l).minus d := by simp [ghG, Grid.ghost]
theorem ghG_ok : ∀ (n : Nat) (l : List (Int × Int)), l.length = n → (∀ d ∈ l, 0 ≤ d.1) → GOK (ghG l) (2 ^ n)
  | 0, l, h, _ => by
    have : l = [] := List.eq_nil_of_length_eq_zero h
    subst this
    have e : ∀ (g : Grid), g = ⟨1, 1, fun _ _ => 1⟩ → GOK g (2 ^ 0) := fun g hg y x => by
      subst hg
      show (box 1 1 (fun _ _ => 1) y x).natAbs ≤ 1
      unfold box
      split
      · show (1 : Int).natAbs ≤ 1; decide
      · decide
    exact e _ rfl
  | n + 1, l, h, hd => by
    have hne : l ≠ [] := by intro e; rw [e] at h; simp at h
    obtain ⟨l', d, rfl⟩ : ∃ l' d, l = l' ++ [d] := ⟨l.dropLast, l.getLast hne, (List.dropLast_concat_getLast hne).symm⟩
    rw [ghG_snoc, Nat.pow_succ, Nat.mul_comm]
    exact gok_minus (ghG_ok n l' (by simpa using h) fun e he => hd e (List.mem_append_left _ he)) (hd d (by simp))
theorem ghG_size (l : List (Int × Int)) (hd : ∀ d ∈ l, 0 ≤ d.1) : ((ghG l).R : Int) = 1 + upI l ∧ ((ghG l).C : Int) = 1 + overI l := by
  have := ghost_size l ⟨1, 1, fun _ _ => 1⟩ hd
  exact ⟨this.1, this.2⟩
def bgB (l : List (Int × Int)) : Bool := dirsB l && sizeOk (1 + upI l) (1 + overI l)
def bgM (l : List (Int × Int)) : List (List Int) := if bgB l = true then mkM (ghG l).R (ghG l).C (ghG l).f else []
end Go.Proofs.Ytiajdmoppgpgnaa
