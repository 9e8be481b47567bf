/-
  The exact law on IsStaircase, walked.
-/
import Derived.Test.YtecfigjkcpbggaaLawsQ
import Derived.Test.YtecfigjkcpbggaaImg
import Derived.Test.YtecfigjkcpbggaaIsStair
namespace Go.Proofs.Ytecfigjkcpbggaa
open Go.RowKit
set_option linter.unusedVariables false

set_option maxHeartbeats 1000000 in
theorem lawIsStaircase_gen (a : Option Addr) (n c : Nat) (m : List (List Int)) (w : World) (hin : InMat w (.slice a n c) m) (val : Bool)
    (hs : ∀ v w, InMat w v m → Calls Try.prog 21 #[v] w fun e w' => e = .returned (.bool val) ∧ Below w.heap.size w w')
    (hi : ∀ v w, InMat w v m → Calls Try.prog 23 #[v] w fun e w' => e = .returned (.bool val) ∧ Below w.heap.size w w') :
    Calls Try.prog 6 #[.slice a n c] w fun e w' => e = .returned (.bool true) ∧ Below w.heap.size w w' := by
  have HI := hide hin; have HS := hide hs; have HM := hide hi
  have hv : (val != val) = false := by cases val <;> rfl
  clear hin hs hi
  go_enter Try.func6, Try.ntmps6
  go_wp2_with fail
  refine (szIntSS_any _ m 1048576 _ (by omega) HI.out).mono ?_
  rintro e w1 ⟨r, rfl, hr, hb1⟩
  have HB1 := hide hb1
  clear hb1
  rcases hr with rfl | ⟨hsz, rfl⟩
  · go_wp2
    go_ret
    exact ⟨rfl, HB1.out⟩
  · go_wp2_with fail
    refine (toIntSS_any _ m _ (by omega) (inMat_below HI.out HB1.out)).mono ?_
    rintro e w2 ⟨v2, rfl, ho2, hb2⟩
    have HO2 := hide ho2; have HB2 := hide (HB1.out.trans (hb2.mono HB1.out.size)); clear ho2 hb2
    go_wp2_with fail
    refine (HS.out v2 _ (inMat_own HO2.out)).mono ?_
    rintro e w3 ⟨rfl, hb3⟩
    have HB3 := hide (HB2.out.trans (hb3.mono HB2.out.size)); clear hb3
    go_wp2_with fail
    refine (toIntSS_any _ m _ (by omega) (inMat_below HI.out HB3.out)).mono ?_
    rintro e w4 ⟨v4, rfl, ho4, hb4⟩
    have HO4 := hide ho4; have HB4 := hide (HB3.out.trans (hb4.mono HB3.out.size)); clear ho4 hb4
    go_wp2_with fail
    refine (HM.out v4 _ (inMat_own HO4.out)).mono ?_
    rintro e w5 ⟨rfl, hb5⟩
    have HO5 := hide (ownMat_below HO4.out hb5); have HB5 := hide (HB4.out.trans (hb5.mono HB4.out.size)); clear hb5
    go_wp2_with fail
    refine (toIntSS_any _ m _ (by omega) (inMat_below HI.out HB5.out)).mono ?_
    rintro e w6 ⟨v6, rfl, ho6, hb6⟩
    have HO6 := hide ho6; have HO46 := hide (ownMat_below HO5.out hb6); have HB6 := hide (HB5.out.trans (hb6.mono HB5.out.size)); clear ho6 hb6
    go_wp2_with fail
    refine (eqIntSS_same v4 v6 m _ (inMat_own HO46.out) (inMat_own HO6.out)).mono ?_
    rintro e w7 ⟨rfl, hb7⟩
    have HB7 := hide (HB6.out.trans (hb7.mono HB6.out.size)); clear hb7
    go_wp2
    go_ret
    exact ⟨rfl, HB7.out⟩

theorem lawIsStaircase_walk (a : Option Addr) (n c : Nat) (m : List (List Int)) (w : World) (hin : InMat w (.slice a n c) m) :
    Calls Try.prog 6 #[.slice a n c] w fun e w' => e = .returned (.bool true) ∧ Below w.heap.size w w' :=
  lawIsStaircase_gen a n c m w hin (stairB m) (fun v w hv => specIsStair_any v m w hv) (fun v w hv => implIsStair_any v m w hv)
end Go.Proofs.Ytecfigjkcpbggaa
