/-
  Texts of this claim, one behind the other: Draw, Grown, SwV, SwL, Has, Swd, IMap, Pairs, Sws, SrA, Srch.
-/
import Derived.Test.YtiajdmoppgpgnaaPackM
import Derived.Test.YtiajdmoppgpgnaaPackI
import Derived.Test.YtiajdmoppgpgnaaPackA
import Derived.Shelf.SlSortCmp.QuietGrown
import Derived.Test.YtiajdmoppgpgnaaPackE
import Derived.Test.YtiajdmoppgpgnaaPackC
import Derived.Test.YtiajdmoppgpgnaaPackF
import Derived.Test.YtiajdmoppgpgnaaPackD
import Derived.DeepKeys5
import Derived.Maps.OwnSet
import Derived.Test.YtiajdmoppgpgnaaPackJ
import Derived.Deep.MidRow
import Derived.WalkMore
import Derived.Deep.LoopGhost
/-
  The images that the laws draw: l02Draw, MakeImage, MakeSized.
-/
namespace Go.Proofs.Ytiajdmoppgpgnaa
open Go.RowKit

theorem curAt_within {w w' : World} {B n : Nat} {a : Option Addr} (h : CurAt w B a n) (hb : w'.heap[B]? = w.heap[B]?) : CurAt w' B a n := by
  obtain ⟨c, i, k, h1, h2, h3⟩ := h
  exact ⟨c, i, k, by rw [hb]; exact h1, h2, h3⟩
theorem curAt_lt {w : World} {B n : Nat} {a : Option Addr} (h : CurAt w B a n) : B < w.heap.size := by
  obtain ⟨c, i, k, h1, -⟩ := h
  exact (Array.getElem?_eq_some_iff.1 h1).1
theorem curAt_below {w w' : World} {B n : Nat} {a : Option Addr} (h : CurAt w B a n) (hb : Below w.heap.size w w') : CurAt w' B a n := curAt_within h (hb.block B (curAt_lt h))
theorem ownMat_cur {w w' : World} {lo hi B : Nat} {v : Value} {m : List (List Int)} (h : OwnMat w lo hi v m) (hg : w.grownBy w' (some B)) (hB : B < lo) : OwnMat w' lo hi v m :=
  ownMat_within h (within_grown (lo := B) (hi := B + 1) hg fun k hk => by cases hk; exact ⟨Nat.le_refl _, Nat.lt_succ_self _⟩) (.inr hB)
theorem grown_undrew {w w' : World} {row : Option Nat} (h : w.drew.grownBy w' row) : w.grownBy w' row := ⟨h.os, h.tape, h.output, h.size, h.block⟩
theorem cells_kept {w w' : World} {B gv y gr x : Nat} {u z : Value} (h : w.drew.grownBy w' (some B)) (h1 : w.cell? ⟨gv, y, none⟩ = some u) (h2 : w.cell? ⟨gr, x, none⟩ = some z) (h3 : w.frozen? ⟨gr, x, none⟩ = false) (n1 : gv ≠ B) (n2 : gr ≠ B) :
    w'.cell? ⟨gv, y, none⟩ = some u ∧ w'.cell? ⟨gr, x, none⟩ = some z ∧ w'.frozen? ⟨gr, x, none⟩ = false := by
  have hg := grown_undrew h
  refine ⟨hg.cell h1 (by simpa using n1), hg.cell h2 (by simpa using n2), ?_⟩
  have hlt : gr < w.heap.size := World.block_lt_of_cell? w _ h2
  rw [World.frozen?_of_block (w := w) (a := ⟨gr, x, none⟩) (hg.block gr hlt (by simpa using n2))]; exact h3
theorem img_upd {R C : Nat} {f : Nat → Nat → Int} (h : Img R C f) (y x : Nat) {z : Int} (hz : z = 0 ∨ z = 1) : Img R C fun a b => if a = y ∧ b = x then z else f a b :=
  ⟨h.r1, h.r2, h.c1, h.c2, fun a b ha hb => by
    show (if a = y ∧ b = x then z else f a b) = 0 ∨ (if a = y ∧ b = x then z else f a b) = 1
    split
    · exact hz
    · exact h.cell a b ha hb⟩

theorem ownMat_apart {w : World} {lo hi g n c g' n' c' : Nat} {m : List (List Int)} (h : OwnMat w lo hi (.slice (some ⟨g, 0, none⟩) n c) m) (i : Nat) (h' : i < m.length) (hc : w.cell? ⟨g, i, none⟩ = some (.slice (some ⟨g', 0, none⟩) n' c')) : g ≠ g' := by
  obtain ⟨vs, ho, -, hr, -⟩ := h
  have hn : n = m.length := by
    rcases ho.2 with ⟨e, _⟩ | ⟨g2, cap, cur, e, _⟩
    · cases e
    · cases e; rfl
  subst hn
  have h1 := cell_held ho h'
  rw [hc, Option.some.injEq] at h1
  rcases own_types ho (hr i h').1 (by decide) with e | e
  · cases e
  · rw [← h1] at e
    simpa [Value.ownBlock] using e
/-- What the laws draw: some image; the cursor in its place; nothing below it touched. -/
def DrawnImg (w : World) (B : Nat) (a : Option Addr) (n : Nat) (e : Ending) (w' : World) : Prop :=
  ∃ (v : Value) (R C : Nat) (f : Nat → Nat → Int), e = .returned v ∧ Img R C f ∧ OwnMat w' w.heap.size w'.heap.size v (mkM R C f) ∧ CurAt w' B a n ∧ Below B w w'

/-- And it is of the size asked. -/
def DrawnMost (most : Nat) (w : World) (B : Nat) (a : Option Addr) (n : Nat) (e : Ending) (w' : World) : Prop :=
  ∃ (v : Value) (R C : Nat) (f : Nat → Nat → Int), e = .returned v ∧ Img R C f ∧ (R ≤ most ∧ C ≤ most) ∧ OwnMat w' w.heap.size w'.heap.size v (mkM R C f) ∧ CurAt w' B a n ∧ Below B w w'
set_option maxRecDepth 100000 in
set_option maxHeartbeats 1000000 in
theorem l02Draw_most (B n : Nat) (a : Option Addr) (most : Nat) (w : World) (base : Nat) (hm0 : 1 ≤ most) (hm1 : most ≤ 5) (hc : CurAt w B a n) (hin : InBytes w base a n) (hbase : base ≤ B) :
    Calls Try.prog 85 #[.pointer (some ⟨B, 0, none⟩), .int .i64 most] w (DrawnMost most w B a n) := by
  have HC := hide hc; have HI := hide hin
  have hBw := curAt_lt hc
  clear hc hin
  go_enter Try.func85, Try.ntmps85
  go_wp2_with fail
  refine (l01Below_any B n a most _ base (by omega) (by omega) HC.out HI.out hbase).mono ?_
  rintro e w1 ⟨x1, hx10, hx11, rfl, hc1, hg1⟩
  have HC1 := hide hc1; have HI1 := hide (inBytes_grown HI.out hg1 hbase); have HG1 := hide hg1
  clear hc1 hg1
  go_wp2_with fail
  refine (l01Below_any B n a most _ base (by omega) (by omega) HC1.out HI1.out hbase).mono ?_
  rintro e w2 ⟨x2, hx20, hx21, rfl, hc2, hg2⟩
  have HC2 := hide hc2; have HI2 := hide (inBytes_grown HI1.out hg2 hbase); have HG2 := hide (grown_trans HG1.out hg2)
  clear hc2 hg2
  obtain ⟨R, hR⟩ : ∃ R : Nat, 1 + x1 = R := ⟨(1 + x1).toNat, by omega⟩
  obtain ⟨C, hC⟩ : ∃ C : Nat, 1 + x2 = C := ⟨(1 + x2).toNat, by omega⟩
  have HMOST : Hid (R ≤ most ∧ C ≤ most) := hide (by omega)
  have hR5 : 1 ≤ R ∧ R ≤ 5 := by omega
  have hC5 : 1 ≤ C ∧ C ≤ 5 := by omega
  obtain rfl : x1 = R - 1 := by omega
  obtain rfl : x2 = C - 1 := by omega
  have k1 : 1 + ((R : Int) - 1) = R := by omega
  have k2 : 1 + ((C : Int) - 1) = C := by omega
  clear hR hC
  go_wp2_with fail
  refine (l02Empty_any R C _ hR5.2 hC5.2).mono ?_
  rintro e w3 ⟨v3, rfl, o3, b3⟩
  clear k1 k2
  obtain ⟨gv, cv, rfl⟩ := ownMat_some o3 (by rw [mkM_len]; omega)
  rw [mkM_len] at *
  have hs2 := HG2.out.size
  have B3 := hide ((grown_below HG2.out (fun k hk => by cases hk; exact Nat.le_refl B) (by omega) : Below B w w2).trans (b3.mono (by omega)))
  have C3 := hide (curAt_below HC2.out b3)
  have I3 := hide (inBytes_below HI2.out (b3.mono (by have := HI2.out.2.1; omega)))
  have O3 := hide (ownMat_mono o3 hs2 (Nat.le_refl _))
  have IM3 := hide (img_zero hR5 hC5)
  obtain ⟨hi, hhi⟩ : ∃ hi, hi = w3.heap.size := ⟨_, rfl⟩
  have hge : hi ≤ w3.heap.size := by omega
  rw [← hhi] at O3
  clear HG2 HC2 HI2 HC1 HI1 HG1 o3 b3 hhi
  go_wp2
  go_loopw [19] (fun i w' => ∃ (y : Nat) (f : Nat → Nat → Int), y ≤ R ∧ i = .int .i64 y ∧ Img R C f ∧ hi ≤ w'.heap.size ∧ OwnMat w' w.heap.size hi (.slice (some ⟨gv, 0, none⟩) R cv) (mkM R C f) ∧ CurAt w' B a n ∧ InBytes w' base a n ∧ Below B w w') (fun i _ => R - (intOf i).toNat)
  case atStart => exact ⟨0, zeroM, by omega, rfl, IM3.out, hge, O3.out, C3.out, I3.out, B3.out⟩
  case round =>
    clear B3 C3 I3 O3 IM3 hge
    obtain ⟨y, f, hy, rfl, him, hhi, hown, hcu, hib, hb⟩ := hrel
    have HM := hide him; have HO := hide hown; have HCu := hide hcu; have HIB := hide hib; have HB := hide hb
    clear him hown hcu hib hb
    by_cases hlt : y < R
    · have hyI : (y : Int) < R := by omega
      obtain ⟨g0, c0, hrow0, -⟩ := ownMat_cell HO.out y 0 hlt (by omega)
      go_wp2
      clear hrow0
      go_loopw [27] (fun i w' => ∃ (x : Nat) (f : Nat → Nat → Int), x ≤ C ∧ i = .int .i64 x ∧ Img R C f ∧ hi ≤ w'.heap.size ∧ OwnMat w' w.heap.size hi (.slice (some ⟨gv, 0, none⟩) R cv) (mkM R C f) ∧ CurAt w' B a n ∧ InBytes w' base a n ∧ Below B w w') (fun i _ => C - (intOf i).toNat)
      case atStart => exact ⟨0, f, by omega, rfl, HM.out, hhi, HO.out, HCu.out, HIB.out, HB.out⟩
      case round =>
        clear HM HO HCu HIB HB hhi f
        obtain ⟨x, f, hx, rfl, him, hhi, hown, hcu, hib, hb⟩ := hrel
        have HM := hide him; have HO := hide hown; have HCu := hide hcu; have HIB := hide hib; have HB := hide hb
        clear him hown hcu hib hb
        by_cases hlx : x < C
        · have hxI : (x : Int) < C := by omega
          obtain ⟨gr, cr, hrow, hcl, hfr, hlo, hgh, -⟩ := ownMat_cell HO.out y x hlt hlx
          have hgv : gv ≠ B := by
            obtain ⟨vs, hvs, -⟩ := HO.out
            have := (hvs.lt gv rfl).1; omega
          have HK : Hid (∀ w5, CurAt w5 B a n → wr.drew.grownBy w5 (some B) → w5.cell? ⟨gv, y, none⟩ = some (.slice (some ⟨gr, 0, none⟩) C cr) ∧ w5.cell? ⟨gr, x, none⟩ = some (.int .i64 (f y x)) ∧ w5.frozen? ⟨gr, x, none⟩ = false) := hide fun w5 hc hg => cells_kept hg hrow hcl hfr hgv (by omega)
          have hgg : gv ≠ gr := ownMat_apart HO.out y (by rw [mkM_len]; exact hlt) hrow
          have HCd : Hid (CurAt wr.drew B a n) := hide HCu.out
          have HId : Hid (InBytes wr.drew base a n) := hide HIB.out
          go_wp2
          go_region_held3 (fun w' => w'.cell? ⟨gv, y, none⟩ = some (.slice (some ⟨gr, 0, none⟩) C cr))
            (first | exact hrow | exact k1 | exact HKS.out)
            (first | (go_at_call 89; refine (l01Below_any B n a 2 _ base (by omega) (by omega) HCd.out HId.out hbase).mono ?_; rintro e w5 ⟨z, hz0, hz1, rfl, hc5, hg5⟩; obtain ⟨k1, k2, k3⟩ := HK.out w5 hc5 hg5; have HZ : Hid (z = 0 ∨ z = 1) := hide (by omega); have HKS : Hid ((w5.setCell ⟨gr, x, none⟩ (.int .i64 z)).cell? ⟨gv, y, none⟩ = some (.slice (some ⟨gr, 0, none⟩) C cr)) := hide (by rw [World.cell?_setCell_other _ _ _ _ (fun e => hgg (congrArg Addr.block e).symm)]; exact k1); replace hc5 := hide hc5; replace hg5 := hide hg5))
          go_wp2
          go_roundw
          case rel =>
            have hg := grown_undrew hg5.out
            have ho5 := ownMat_cur HO.out hg (by omega)
            obtain ⟨g7, c7, hrow7, -, -, -, -, hset⟩ := ownMat_cell ho5 y x hlt hlx
            rw [k1] at hrow7
            simp only [Option.some.injEq, Value.slice.injEq, Addr.mk.injEq] at hrow7
            obtain ⟨⟨rfl, -, -⟩, -, -⟩ := hrow7
            exact ⟨x + 1, _, by omega, by go_num, img_upd HM.out y x HZ.out, (by have := hg.size; simp [World.setCell]; omega), hset z, curAt_within hc5.out (heap_setCell_other _ _ _ _ (by show B ≠ gr; omega)), inBytes_below (inBytes_grown HIB.out hg hbase) ((Below.refl _ _).setCell (by show base ≤ gr; omega) _), (HB.out.trans (grown_below hg (fun k hk => by cases hk; exact Nat.le_refl _) (by have := curAt_lt HCu.out; omega))).setCell (by show B ≤ gr; omega) _⟩
          case measure => simp [intOf]; omega
        · obtain rfl : x = C := by omega
          go_wp2
          go_roundw
          case rel => exact ⟨y + 1, f, by omega, by go_num, HM.out, hhi, HO.out, HCu.out, HIB.out, HB.out⟩
          case measure => simp [intOf]; omega
    · obtain rfl : y = R := by omega
      go_wp2
      go_ret
      exact ⟨_, y, C, f, rfl, HM.out, HMOST.out, ownMat_mono HO.out (Nat.le_refl _) hhi, HCu.out, HB.out⟩

theorem l02Draw_any (B n : Nat) (a : Option Addr) (most : Nat) (w : World) (base : Nat) (hm0 : 1 ≤ most) (hm1 : most ≤ 5) (hc : CurAt w B a n) (hin : InBytes w base a n) (hbase : base ≤ B) :
    Calls Try.prog 85 #[.pointer (some ⟨B, 0, none⟩), .int .i64 most] w (DrawnImg w B a n) :=
  (l02Draw_most B n a most w base hm0 hm1 hc hin hbase).mono fun _ _ ⟨v, R, C, f, h1, h2, _, h3, h4, h5⟩ => ⟨v, R, C, f, h1, h2, h3, h4, h5⟩

/-- What the laws' makers answer: some image. -/
def MadeImg (w : World) (e : Ending) (w' : World) : Prop := ∃ (v : Value) (R C : Nat) (f : Nat → Nat → Int), e = .returned v ∧ Img R C f ∧ OwnMat w' w.heap.size w'.heap.size v (mkM R C f) ∧ Below w.heap.size w w'
set_option maxHeartbeats 400000 in
theorem makeImage_any (n c : Nat) (a : Option Addr) (m : Nat) (w : World) (base : Nat) (hin : InBytes w base a n) (hn : n ≤ 2000000) (hm : m ≤ 1000) :
    Calls Try.prog 41 #[.slice a n c, .int .i64 m, .int .i64 5] w (MadeImg w) := by
  have HI := hide hin
  clear hin
  go_enter Try.func41, Try.ntmps41
  go_wp2_with fail
  refine (l18New_any n c a m _ base HI.out hn hm).mono ?_
  rintro e w1 ⟨rfl, hc, hb, hlt⟩
  have HC := hide hc; have HB := hide hb; have hs1 := hb.size
  have HI1 := hide (inBytes_below HI.out (hb.mono HI.out.2.1))
  clear hc hb
  go_wp2_with fail
  refine (l02Draw_any _ n a 5 _ base (by omega) (by omega) HC.out HI1.out HI.out.2.1).mono ?_
  rintro e w2 ⟨v, R, C, f, rfl, him, ho, -, hb⟩
  have HIM := hide him; have HO := hide (ownMat_mono ho hs1 (Nat.le_refl _)); have HB2 := hide (HB.out.trans hb)
  clear him ho hb
  go_wp2
  go_ret
  exact ⟨v, R, C, f, rfl, HIM.out, HO.out, HB2.out⟩

/-- What MakeSized answers: an image of the size asked. -/
def SizedImg (R C : Nat) (w : World) (e : Ending) (w' : World) : Prop := ∃ (v : Value) (f : Nat → Nat → Int), e = .returned v ∧ Img R C f ∧ OwnMat w' w.heap.size w'.heap.size v (mkM R C f) ∧ Below w.heap.size w w'
set_option maxRecDepth 100000 in
set_option maxHeartbeats 1000000 in
theorem makeSized_any (n c : Nat) (a : Option Addr) (m R C : Nat) (w : World) (base : Nat) (hin : InBytes w base a n) (hn : n ≤ 2000000) (hm : m ≤ 1000) (hR5 : 1 ≤ R ∧ R ≤ 5) (hC5 : 1 ≤ C ∧ C ≤ 5) :
    Calls Try.prog 53 #[.slice a n c, .int .i64 m, .int .i64 R, .int .i64 C] w (SizedImg R C w) := by
  have HI := hide hin
  have hbase := hin.2.1
  clear hin
  go_enter Try.func53, Try.ntmps53
  go_wp2_with fail
  refine (l18New_any n c a m _ base HI.out hn hm).mono ?_
  rintro e w0 ⟨rfl, hc, hb, hBw⟩
  have HC0 := hide hc; have HB0 := hide hb; have HI0 := hide (inBytes_below HI.out (hb.mono HI.out.2.1))
  clear hc hb HI
  obtain ⟨B, hB⟩ : ∃ B, w.heap.size = B := ⟨_, rfl⟩
  rw [hB] at HC0 HB0 hBw hbase ⊢
  have HEB := hide hB
  clear hB
  go_wp2_with fail
  rw [show max (1 : Int) (min (R : Int) 5) = R by omega, show max (1 : Int) (min (C : Int) 5) = C by omega]
  refine (l02Empty_any R C _ hR5.2 hC5.2).mono ?_
  rintro e w3 ⟨v3, rfl, o3, b3⟩
  obtain ⟨gv, cv, rfl⟩ := ownMat_some o3 (by rw [mkM_len]; omega)
  rw [mkM_len] at *
  have B3 := hide (HB0.out.trans (b3.mono (by omega)))
  have C3 := hide (curAt_below HC0.out b3)
  have I3 := hide (inBytes_below HI0.out (b3.mono (by omega)))
  have O3 := hide o3
  have IM3 := hide (img_zero hR5 hC5)
  obtain ⟨hi, hhi⟩ : ∃ hi, hi = w3.heap.size := ⟨_, rfl⟩
  have hge : hi ≤ w3.heap.size := by omega
  rw [← hhi] at O3
  clear HC0 HI0 o3 b3 hhi
  go_wp2
  go_loopw [25] (fun i w' => ∃ (y : Nat) (f : Nat → Nat → Int), y ≤ R ∧ i = .int .i64 y ∧ Img R C f ∧ hi ≤ w'.heap.size ∧ OwnMat w' w0.heap.size hi (.slice (some ⟨gv, 0, none⟩) R cv) (mkM R C f) ∧ CurAt w' B a n ∧ InBytes w' base a n ∧ Below B w w') (fun i _ => R - (intOf i).toNat)
  case atStart => exact ⟨0, zeroM, by omega, rfl, IM3.out, hge, O3.out, C3.out, I3.out, B3.out⟩
  case round =>
    clear B3 C3 I3 O3 IM3 hge
    obtain ⟨y, f, hy, rfl, him, hhi, hown, hcu, hib, hb⟩ := hrel
    have HM := hide him; have HO := hide hown; have HCu := hide hcu; have HIB := hide hib; have HB := hide hb
    clear him hown hcu hib hb
    by_cases hlt : y < R
    · have hyI : (y : Int) < R := by omega
      obtain ⟨g0, c0, hrow0, -⟩ := ownMat_cell HO.out y 0 hlt (by omega)
      go_wp2
      clear hrow0
      go_loopw [33] (fun i w' => ∃ (x : Nat) (f : Nat → Nat → Int), x ≤ C ∧ i = .int .i64 x ∧ Img R C f ∧ hi ≤ w'.heap.size ∧ OwnMat w' w0.heap.size hi (.slice (some ⟨gv, 0, none⟩) R cv) (mkM R C f) ∧ CurAt w' B a n ∧ InBytes w' base a n ∧ Below B w w') (fun i _ => C - (intOf i).toNat)
      case atStart => exact ⟨0, f, by omega, rfl, HM.out, hhi, HO.out, HCu.out, HIB.out, HB.out⟩
      case round =>
        clear HM HO HCu HIB HB hhi f
        obtain ⟨x, f, hx, rfl, him, hhi, hown, hcu, hib, hb⟩ := hrel
        have HM := hide him; have HO := hide hown; have HCu := hide hcu; have HIB := hide hib; have HB := hide hb
        clear him hown hcu hib hb
        by_cases hlx : x < C
        · have hxI : (x : Int) < C := by omega
          obtain ⟨gr, cr, hrow, hcl, hfr, hlo, hgh, -⟩ := ownMat_cell HO.out y x hlt hlx
          have hgv : gv ≠ B := by
            obtain ⟨vs, hvs, -⟩ := HO.out
            have := (hvs.lt gv rfl).1; omega
          have HK : Hid (∀ w5, CurAt w5 B a n → wr.drew.grownBy w5 (some B) → w5.cell? ⟨gv, y, none⟩ = some (.slice (some ⟨gr, 0, none⟩) C cr) ∧ w5.cell? ⟨gr, x, none⟩ = some (.int .i64 (f y x)) ∧ w5.frozen? ⟨gr, x, none⟩ = false) := hide fun w5 hc hg => cells_kept hg hrow hcl hfr hgv (by omega)
          have hgg : gv ≠ gr := ownMat_apart HO.out y (by rw [mkM_len]; exact hlt) hrow
          have HCd : Hid (CurAt wr.drew B a n) := hide HCu.out
          have HId : Hid (InBytes wr.drew base a n) := hide HIB.out
          go_wp2
          go_region_held3 (fun w' => w'.cell? ⟨gv, y, none⟩ = some (.slice (some ⟨gr, 0, none⟩) C cr))
            (first | exact hrow | exact k1 | exact HKS.out)
            (first | (go_at_call 89; refine (l01Below_any B n a 2 _ base (by omega) (by omega) HCd.out HId.out hbase).mono ?_; rintro e w5 ⟨z, hz0, hz1, rfl, hc5, hg5⟩; obtain ⟨k1, k2, k3⟩ := HK.out w5 hc5 hg5; have HZ : Hid (z = 0 ∨ z = 1) := hide (by omega); have HKS : Hid ((w5.setCell ⟨gr, x, none⟩ (.int .i64 z)).cell? ⟨gv, y, none⟩ = some (.slice (some ⟨gr, 0, none⟩) C cr)) := hide (by rw [World.cell?_setCell_other _ _ _ _ (fun e => hgg (congrArg Addr.block e).symm)]; exact k1); replace hc5 := hide hc5; replace hg5 := hide hg5))
          go_wp2
          go_roundw
          case rel =>
            have hg := grown_undrew hg5.out
            have ho5 := ownMat_cur HO.out hg (by omega)
            obtain ⟨g7, c7, hrow7, -, -, -, -, hset⟩ := ownMat_cell ho5 y x hlt hlx
            rw [k1] at hrow7
            simp only [Option.some.injEq, Value.slice.injEq, Addr.mk.injEq] at hrow7
            obtain ⟨⟨rfl, -, -⟩, -, -⟩ := hrow7
            exact ⟨x + 1, _, by omega, by go_num, img_upd HM.out y x HZ.out, (by have := hg.size; simp [World.setCell]; omega), hset z, curAt_within hc5.out (heap_setCell_other _ _ _ _ (by show B ≠ gr; omega)), inBytes_below (inBytes_grown HIB.out hg hbase) ((Below.refl _ _).setCell (by show base ≤ gr; omega) _), (HB.out.trans (grown_below hg (fun k hk => by cases hk; exact Nat.le_refl _) (by have := curAt_lt HCu.out; omega))).setCell (by show B ≤ gr; omega) _⟩
          case measure => simp [intOf]; omega
        · obtain rfl : x = C := by omega
          go_wp2
          go_roundw
          case rel => exact ⟨y + 1, f, by omega, by go_num, HM.out, hhi, HO.out, HCu.out, HIB.out, HB.out⟩
          case measure => simp [intOf]; omega
    · obtain rfl : y = R := by omega
      go_wp2
      go_ret
      exact ⟨_, f, rfl, HM.out, ownMat_mono HO.out (by have := HB0.out.size; exact this) hhi, by rw [HEB.out]; exact HB.out⟩

end Go.Proofs.Ytiajdmoppgpgnaa
/-
  Worlds that have grown: some draws, some blocks laid behind.
-/
namespace Go.Proofs.Ytiajdmoppgpgnaa
open Go.RowKit

/-- After some draws, with some blocks laid behind. -/
def GrownW (w w' : World) : Prop := ∃ q os, w' = Go.Sort.grow (w.drewN q) os
theorem grownW_refl (w : World) : GrownW w w := ⟨0, #[], by rw [Go.Sort.grow_empty]; rfl⟩
theorem grownW_grow (w : World) (q : Nat) (os : Array Obj) : GrownW w (Go.Sort.grow (w.drewN q) os) := ⟨q, os, rfl⟩
theorem grownW_trans {a b c : World} (h : GrownW a b) (k : GrownW b c) : GrownW a c := by
  obtain ⟨q, os, rfl⟩ := h
  obtain ⟨p, os', rfl⟩ := k
  exact ⟨q + p, os ++ os', by show Go.Sort.grow (Go.Sort.grow ((a.drewN q).drewN p) os) os' = _; rw [Go.Sort.grow_grow, World.drewN_drewN]⟩
theorem grownW_alloc (w : World) (o : Obj) : GrownW w (w.alloc o) := ⟨0, #[o], by rw [Go.Sort.alloc_eq_grow]; rfl⟩
theorem grownW_below {w w' : World} (h : GrownW w w') : Below w.heap.size w w' := by
  obtain ⟨q, os, rfl⟩ := h
  refine ⟨rfl, rfl, rfl, ?_, fun k hk => ?_⟩
  · show w.heap.size ≤ (w.heap ++ os).size
    rw [Array.size_append]; omega
  · show (w.heap ++ os)[k]? = _
    rw [Array.getElem?_append_left hk]
theorem quiet_of {P : Program} {f : FuncId} {args : Array Value} {w : World} {n : Nat} {os : Array Obj} {v : Value} (h : Calls P f args (Go.Sort.grow (w.drewN n) os) fun e w' => e = .returned v ∧ GrownW (Go.Sort.grow (w.drewN n) os) w') :
    Calls P f args (Go.Sort.grow (w.drewN n) os) fun e w'' => e = .returned v ∧ ∃ p : GrownBy, w'' = Go.Sort.grow (w.drewN p.n) p.os := Calls.grown_of h
end Go.Proofs.Ytiajdmoppgpgnaa
/-
  Switches as values and in variables; a cell of an image; whether a switch is one of an image.
-/
namespace Go.Proofs.Ytiajdmoppgpgnaa
open Go.RowKit

def swA (s : Sw) : Array Value := #[.int .i64 s.y1, .int .i64 s.y2, .int .i64 s.x1, .int .i64 s.x2]
def swV (s : Sw) : Value := .agg (swA s)
/-- A switch in a variable. -/
def SwAt (w : World) (g : Nat) (s : Sw) : Prop := w.heap[g]? = some (.cells (swA s) 117 (0, 0))
theorem swAt_lt {w : World} {g : Nat} {s : Sw} (h : SwAt w g s) : g < w.heap.size := (Array.getElem?_eq_some_iff.1 h).1
theorem swAt_below {w w' : World} {g : Nat} {s : Sw} (h : SwAt w g s) (hb : Below w.heap.size w w') : SwAt w' g s := by
  unfold SwAt; rw [hb.block g (swAt_lt h)]; exact h
theorem swAt_grown {w w' : World} {g : Nat} {s : Sw} {row : Option Nat} (h : SwAt w g s) (hg : w.grownBy w' row) (hr : row ≠ some g) : SwAt w' g s := by
  unfold SwAt; rw [hg.block g (swAt_lt h) (Ne.symm hr)]; exact h
theorem swAt_cells {w : World} {g : Nat} {s : Sw} (h : SwAt w g s) : w.cell? ⟨g, 0, none⟩ = some (.int .i64 s.y1) ∧ w.cell? ⟨g, 1, none⟩ = some (.int .i64 s.y2) ∧ w.cell? ⟨g, 2, none⟩ = some (.int .i64 s.x1) ∧ w.cell? ⟨g, 3, none⟩ = some (.int .i64 s.x2) :=
  ⟨by rw [cell_of_row w g 0 _ _ _ h]; rfl, by rw [cell_of_row w g 1 _ _ _ h]; rfl, by rw [cell_of_row w g 2 _ _ _ h]; rfl, by rw [cell_of_row w g 3 _ _ _ h]; rfl⟩
theorem Try.sizeSw : (Try.prog.info? 117).map (·.size) = some 4 := by kernel_rfl
theorem swA_size (s : Sw) : (swA s).size = 4 := rfl
theorem swA_one (s : Sw) : (swA s).all (·.oneCell') = true := by simp [swA, Value.oneCell']
theorem wpList_loadSw {ops : Array Oper} {rest : List Oper} {o : Oper} {a : Act} {Q : Exit → Act → World → Prop} {W : World} {g : Nat} {s : Sw} (hb : SwAt W g s)
    (d : Tmp) (_hd : o.dst = some d) (hgd : o.guard = none) (x : Operand) (ho : o.op = .load 117 x) (hx : a.eval x = .pointer (some ⟨g, 0, none⟩))
    (h : wpList Try.prog ops Q rest (a.put o.dst (swV s)) W) : wpList Try.prog ops Q (o :: rest) a W :=
  wpList_load_row hgd _ x ho g hx _ _ (0, 0) _ hb Try.underlying117 rfl Try.sizeSw h
theorem exec_loadSw {ρ : Operand → Value} {o : Oper} {w : World} {x : Operand} {g : Nat} {s : Sw} (ho : o.op = .load 117 x) (hx : ρ x = .pointer (some ⟨g, 0, none⟩)) (hb : SwAt w g s) : (execOp ρ o).run Try.prog w = .ok (.value (swV s)) w := by
  unfold execOp
  simp only [ho, hx]
  have hc := swAt_cells hb
  obtain ⟨h0, h1, h2, h3⟩ := hc
  go_simp
  rfl
theorem swAt_new (w : World) (s : Sw) : SwAt (w.alloc (.cells (swA s) 117)) w.heap.size s := heap_alloc_new w _
/-- A switch goes into a new variable. -/
theorem wpList_boxSw {P : Program} {ops : Array Oper} {rest : List Oper} {o : Oper} {a : Act} {Q : Exit → Act → World → Prop} {W : World} (s : Sw)
    (d : Tmp) (_hd : o.dst = some d) (hgd : o.guard = none) (x : Operand) (ho : o.op = .box 117 x) (hx : a.eval x = swV s)
    (h : ∀ w', SwAt w' W.heap.size s → Below W.heap.size W w' → w'.heap.size = W.heap.size + 1 → wpList P ops Q rest (a.put o.dst (.pointer (some ⟨W.heap.size, 0, none⟩))) w') : wpList P ops Q (o :: rest) a W := by
  refine wpList_plain hgd fun K hK => ?_
  unfold Oper.wp execOp
  simp only [ho, hx, Instr.box, Sem.run_bind]
  simp [newVar, newRow, Value.cells, swV]
  exact hK _ _ (h _ (swAt_new W s) ((Below.refl _ _).alloc (Nat.le_refl _) _) (by simp))

/-- The cell of five rows of five, -1 outside. -/
def cellF (F : Nat → Int) (y x : Int) : Int := if 0 ≤ y ∧ y < 5 ∧ 0 ≤ x ∧ x < 5 then F (5 * y.toNat + x.toNat) else -1
/-- Whether the switch is one of the image. -/
def hasF (F : Nat → Int) (s : Sw) : Bool :=
  decide (s.y1 < s.y2) && decide (s.x1 < s.x2) && decide (cellF F s.y1 s.x1 ≠ cellF F s.y1 s.x2) && decide (cellF F s.y2 s.x1 = cellF F s.y1 s.x2) && decide (cellF F s.y2 s.x2 = cellF F s.y1 s.x1)
theorem cellF_img {R C : Nat} {f : Nat → Nat → Int} (h : Img R C f) (y x : Int) : cellF (imgF R C f) y x = if 0 ≤ y ∧ y < R ∧ 0 ≤ x ∧ x < C then f y.toNat x.toNat else -1 := by
  have hR := h.r2; have hC := h.c2
  unfold cellF
  by_cases h0 : 0 ≤ y ∧ y < 5 ∧ 0 ≤ x ∧ x < 5
  · rw [if_pos h0, imgF_at _ _ _ _ _ (by omega)]
    by_cases h1 : 0 ≤ y ∧ y < R ∧ 0 ≤ x ∧ x < C
    · rw [if_pos (by omega), if_pos h1]
    · rw [if_neg (by omega), if_neg h1]
  · rw [if_neg h0, if_neg (by omega)]
theorem hasF_img {R C : Nat} {f : Nat → Nat → Int} (h : Img R C f) (s : Sw) : hasF (imgF R C f) s = swF R C f s := by
  have hR := h.r2; have hC := h.c2
  obtain ⟨y1, y2, x1, x2⟩ := s
  rw [Bool.eq_iff_iff]
  simp only [hasF, cellF_img h, swF, four, Bool.and_eq_true, decide_eq_true_eq]
  by_cases hh : (0 ≤ y1 ∧ 0 ≤ x1) ∧ y1 < y2 ∧ x1 < x2
  · obtain ⟨⟨h1, h2⟩, h3, h4⟩ := hh
    obtain ⟨a, rfl⟩ : ∃ a : Nat, y1 = a := ⟨y1.toNat, by omega⟩
    obtain ⟨b, rfl⟩ : ∃ b : Nat, y2 = b := ⟨y2.toNat, by omega⟩
    obtain ⟨c, rfl⟩ : ∃ c : Nat, x1 = c := ⟨x1.toNat, by omega⟩
    obtain ⟨d, rfl⟩ : ∃ d : Nat, x2 = d := ⟨x2.toNat, by omega⟩
    simp only [Int.toNat_natCast]
    by_cases hb : b < R ∧ d < C
    · obtain ⟨hb, hd⟩ := hb
      have e1 := h.cell a c (by omega) (by omega); have e2 := h.cell a d (by omega) (by omega); have e3 := h.cell b c (by omega) (by omega); have e4 := h.cell b d (by omega) (by omega)
      rw [if_pos (by omega), if_pos (by omega), if_pos (by omega), if_pos (by omega)]
      omega
    · constructor
      · intro hx
        exfalso
        obtain ⟨⟨⟨⟨-, -⟩, g1⟩, g2⟩, g3⟩ := hx
        rw [if_neg (show ¬ (0 ≤ (b : Int) ∧ (b : Int) < R ∧ 0 ≤ (d : Int) ∧ (d : Int) < C) by omega)] at g3
        by_cases hc : a < R ∧ c < C
        · have := h.cell a c hc.1 hc.2
          rw [if_pos (by omega)] at g3
          omega
        · rw [if_neg (show ¬ (0 ≤ (a : Int) ∧ (a : Int) < R ∧ 0 ≤ (c : Int) ∧ (c : Int) < C) by omega)] at g1
          rw [if_neg (by omega)] at g1
          exact g1 rfl
      · rintro ⟨-, h5⟩; omega
  · constructor
    · intro hx
      exfalso
      obtain ⟨⟨⟨⟨k1, k2⟩, g1⟩, g2⟩, g3⟩ := hx
      have hn : ¬ (0 ≤ y1 ∧ 0 ≤ x1) := fun e => hh ⟨e, k1, k2⟩
      rw [if_neg (show ¬ (0 ≤ y1 ∧ y1 < R ∧ 0 ≤ x1 ∧ x1 < C) by omega)] at g1 g3
      split at g1 <;> split at g3 <;> split at g2 <;> first | omega | skip
      all_goals first | (exact g1 rfl) | skip
      all_goals (rename_i q1 q2 q3; omega)
    · rintro ⟨⟨⟨⟨k1, k2⟩, k3⟩, k4⟩, -⟩
      exact absurd ⟨⟨k1, k2⟩, k3, k4⟩ hh
end Go.Proofs.Ytiajdmoppgpgnaa
/-
  Lists of switches in memory.
-/
namespace Go.Proofs.Ytiajdmoppgpgnaa
open Go.RowKit

def cellsS (l : List Sw) : List Value := l.flatMap fun s => [.int .i64 s.y1, .int .i64 s.y2, .int .i64 s.x1, .int .i64 s.x2]
theorem cellsS_len (l : List Sw) : (cellsS l).length = l.length * 4 := by
  induction l with
  | nil => rfl
  | cons s l ih =>
    simp only [cellsS, List.flatMap_cons, List.length_append, List.length_cons, List.length_nil] at ih ⊢
    omega
theorem cellsS_snoc (l : List Sw) (s : Sw) : cellsS (l ++ [s]) = cellsS l ++ (swA s).toList := by
  simp [cellsS, swA]
theorem cellsS_at : ∀ (l : List Sw) (i : Nat) (h : i < l.length), (cellsS l)[i * 4]? = some (.int .i64 l[i].y1) ∧ (cellsS l)[i * 4 + 1]? = some (.int .i64 l[i].y2) ∧ (cellsS l)[i * 4 + 2]? = some (.int .i64 l[i].x1) ∧ (cellsS l)[i * 4 + 3]? = some (.int .i64 l[i].x2)
  | [], i, h => absurd h (Nat.not_lt_zero _)
  | s :: l, 0, _ => ⟨rfl, rfl, rfl, rfl⟩
  | s :: l, i + 1, h => by
    have := cellsS_at l i (by simpa using h)
    have e : cellsS (s :: l) = [.int .i64 s.y1, .int .i64 s.y2, .int .i64 s.x1, .int .i64 s.x2] ++ cellsS l := by simp [cellsS]
    rw [e]
    simp only [List.getElem_cons_succ]
    refine ⟨?_, ?_, ?_, ?_⟩
    · rw [List.getElem?_append_right (by simp; omega)]
      simpa [show (i + 1) * 4 - 4 = i * 4 by omega] using this.1
    · rw [List.getElem?_append_right (by simp; omega)]
      simpa [show (i + 1) * 4 + 1 - 4 = i * 4 + 1 by omega] using this.2.1
    · rw [List.getElem?_append_right (by simp; omega)]
      simpa [show (i + 1) * 4 + 2 - 4 = i * 4 + 2 by omega] using this.2.2.1
    · rw [List.getElem?_append_right (by simp; omega)]
      simpa [show (i + 1) * 4 + 3 - 4 = i * 4 + 3 by omega] using this.2.2.2
/-- The four cells of a switch. -/
def SwC (w : World) (g k : Nat) (s : Sw) : Prop := w.cell? ⟨g, k, none⟩ = some (.int .i64 s.y1) ∧ w.cell? ⟨g, k + 1, none⟩ = some (.int .i64 s.y2) ∧ w.cell? ⟨g, k + 2, none⟩ = some (.int .i64 s.x1) ∧ w.cell? ⟨g, k + 3, none⟩ = some (.int .i64 s.x2)
theorem swC_below {w w' : World} {g k : Nat} {s : Sw} (h : SwC w g k s) (hb : Below w.heap.size w w') (hg : g < w.heap.size) : SwC w' g k s :=
  ⟨below_cell hb hg h.1, below_cell hb hg h.2.1, below_cell hb hg h.2.2.1, below_cell hb hg h.2.2.2⟩
theorem swC_at {w : World} {g : Nat} {s : Sw} (h : SwAt w g s) : SwC w g 0 s := swAt_cells h
theorem wpList_loadSwC {ops : Array Oper} {rest : List Oper} {o : Oper} {a : Act} {Q : Exit → Act → World → Prop} {W : World} {g k : Nat} {s : Sw} (hb : SwC W g k s)
    (d : Tmp) (_hd : o.dst = some d) (hgd : o.guard = none) (x : Operand) (ho : o.op = .load 117 x) (hx : a.eval x = .pointer (some ⟨g, k, none⟩))
    (h : wpList Try.prog ops Q rest (a.put o.dst (swV s)) W) : wpList Try.prog ops Q (o :: rest) a W := by
  obtain ⟨h0, h1, h2, h3⟩ := hb
  refine wpList_plain hgd fun K hK => ?_
  have : (execOp a.eval o).run Try.prog W = .ok (.value (swV s)) W := by
    unfold execOp
    simp only [ho, hx]
    go_simp
    rfl
  unfold Oper.wp
  rw [this]
  exact hK _ _ h
theorem Try.zeroSwV (w : World) : (zeroValue 117).run Try.prog w = .ok (swV zeroSw) w := Try.zeroValue117 w
theorem wpList_allocSw {ops : Array Oper} {rest : List Oper} {o : Oper} {a : Act} {Q : Exit → Act → World → Prop} {W : World}
    (d : Tmp) (_hd : o.dst = some d) (hgd : o.guard = none) (ho : o.op = .alloc 117)
    (h : ∀ w', SwAt w' W.heap.size zeroSw → Below W.heap.size W w' → w'.heap.size = W.heap.size + 1 → wpList Try.prog ops Q rest (a.put o.dst (.pointer (some ⟨W.heap.size, 0, none⟩))) w') : wpList Try.prog ops Q (o :: rest) a W := by
  refine wpList_plain hgd fun K hK => ?_
  unfold Oper.wp execOp
  simp only [ho, Instr.alloc, Sem.run_bind, Try.zeroSwV, Result.andThen_ok]
  simp [newVar, newRow, Value.cells, swV]
  exact hK _ _ (h _ (swAt_new W zeroSw) ((Below.refl _ _).alloc (Nat.le_refl _) _) (by simp))
theorem wpList_storeSw {ops : Array Oper} {rest : List Oper} {o : Oper} {a : Act} {Q : Exit → Act → World → Prop} {W : World} {g : Nat} {s0 : Sw} (hb : SwAt W g s0) (s : Sw)
    (hgd : o.guard = none) (x y : Operand) (ho : o.op = .store 117 x y) (hx : a.eval x = .pointer (some ⟨g, 0, none⟩)) (hy : a.eval y = swV s)
    (h : ∀ w', SwAt w' g s → W.grownBy w' (some g) → w'.heap.size = W.heap.size → wpList Try.prog ops Q rest (a.put o.dst undef) w') : wpList Try.prog ops Q (o :: rest) a W := by
  refine wpList_plain hgd fun K hK => ?_
  unfold Oper.wp execOp
  simp only [ho, hx, hy, swV, Instr.storeAt, Instr.sureAddr, Sem.run_bind, Sem.run_pure, Result.andThen_ok, run_storeVar_row W g 117 117 (swA s0) (swA s) hb (by rw [Try.sizeSw]; rfl) rfl (swA_one s)]
  exact hK _ _ (h _ (setRow_heap W g _ _ _ (0, 0) hb) ⟨rfl, rfl, rfl, by simp, fun k hk hr => setRow_other W g k _ (fun e => hr (by rw [e]))⟩ (by simp))
/-- The slice v reads as the switches l. -/
def InSws (w : World) (v : Value) (l : List Sw) : Prop :=
  ∃ a c, v = .slice a l.length c ∧ l.length ≤ maxLen ∧ (l.length = 0 ∨ ∃ g o, a = some ⟨g, o, none⟩ ∧ g < w.heap.size ∧ ∀ i, (h : i < l.length) → SwC w g (o + i * 4) l[i])
theorem inSws_below {w w' : World} {v : Value} {l : List Sw} (h : InSws w v l) (hb : Below w.heap.size w w') : InSws w' v l := by
  obtain ⟨a, c, hv, hm, hp⟩ := h
  refine ⟨a, c, hv, hm, ?_⟩
  rcases hp with h0 | ⟨g, o, ha, hg, hc⟩
  · exact .inl h0
  · exact .inr ⟨g, o, ha, Nat.lt_of_lt_of_le hg hb.size, fun i hi => swC_below (hc i hi) hb hg⟩
theorem inSws_nil (w : World) : InSws w (.slice none 0 0) [] := ⟨none, 0, rfl, Nat.zero_le _, .inl rfl⟩
/-- The call owns the switches. -/
def OwnSws (w : World) (lo : Nat) (v : Value) (l : List Sw) : Prop := w.ownsRow lo 117 4 v l.length (cellsS l)
theorem ownSws_below {w w' : World} {lo : Nat} {v : Value} {l : List Sw} (h : OwnSws w lo v l) (hb : Below w.heap.size w w') : OwnSws w' lo v l := ownA_below h hb
theorem ownSws_base {w : World} {lo lo' : Nat} {v : Value} {l : List Sw} (h : OwnSws w lo v l) (hb : lo' ≤ lo) : OwnSws w lo' v l := ownA_base h hb
theorem ownSws_nil (w : World) (lo : Nat) : OwnSws w lo (.slice none 0 0) [] := World.ownsRow_nil _ _ _ _
theorem ownSws_cells {w : World} {lo g n c : Nat} {l : List Sw} (h : OwnSws w lo (.slice (some ⟨g, 0, none⟩) n c) l) (i : Nat) (hi : i < l.length) : SwC w g (i * 4) l[i] := by
  have hn : n = l.length := by
    rcases h.2 with ⟨e, _⟩ | ⟨g', cap, cur, e, _⟩
    · cases e
    · cases e; rfl
  subst hn
  obtain ⟨h0, h1, h2, h3⟩ := cellsS_at l i hi
  exact ⟨by rw [World.ownsRow.cellAt h _ (by omega)]; exact h0, by rw [World.ownsRow.cellAt h _ (by omega)]; exact h1, by rw [World.ownsRow.cellAt h _ (by omega)]; exact h2, by rw [World.ownsRow.cellAt h _ (by omega)]; exact h3⟩
theorem inSws_own {w : World} {lo : Nat} {v : Value} {l : List Sw} (h : OwnSws w lo v l) : InSws w v l := by
  have h' := h
  rcases h.2 with ⟨rfl, h0⟩ | ⟨g, cap, cur, rfl, hbg, hg, hc, hm, _⟩
  · exact ⟨none, 0, by rw [h0], by omega, .inl h0⟩
  · exact ⟨_, _, rfl, by omega, .inr ⟨g, 0, rfl, (Array.getElem?_eq_some_iff.1 hg).1, fun i hi => by rw [Nat.zero_add]; exact ownSws_cells h' i hi⟩⟩
theorem Try.infoSw : (Try.prog.info? 117).map (fun i => (i.zero, i.size, i.bytes)) = some (some (.agg #[.int .i64 0, .int .i64 0, .int .i64 0, .int .i64 0]), 4, 32) := by kernel_rfl
/-- The call answers switches of its own. -/
def SwsRes (l : List Sw) (w : World) (e : Ending) (w' : World) : Prop := ∃ v, e = .returned v ∧ OwnSws w' w.heap.size v l ∧ Below w.heap.size w w'
end Go.Proofs.Ytiajdmoppgpgnaa
/-
  hasSwitch of the program.
-/
namespace Go.Proofs.Ytiajdmoppgpgnaa
open Go.RowKit

theorem exec_loadVec {P : Program} {ρ : Operand → Value} {o : Oper} {w : World} {x : Operand} {g n m : Nat} {T T' e : TypeId} {F : Nat → Int} (ho : o.op = .load T' x) (hx : ρ x = .pointer (some ⟨g, 0, none⟩)) (hb : Blk w g T n F) (hu : P.underlying T' = some (.array m e)) (hi : (P.info? T').map (·.size) = some n) :
    (execOp ρ o).run P w = .ok (.value (.agg (vec n F))) w := by
  unfold execOp
  simp only [ho, hx, Instr.loadAt, Instr.sureAddr, Sem.run_bind, Sem.run_pure, Result.andThen_ok, run_loadVar_row w g T T' (vec n F) (0, 0) _ hb hu rfl (by rw [hi, vec_size])]
/-- The whole variable is read, where a guard asks for it. -/
theorem wpList_loadVecW {P : Program} {ops : Array Oper} {rest : List Oper} {o : Oper} {a : Act} {Q : Exit → Act → World → Prop} {W : World} {g n m : Nat} {T T' e : TypeId} {F : Nat → Int} (hb : Blk W g T n F)
    (d : Tmp) (_hd : o.dst = some d) (j : Nat) (want : Bool) (hg : o.guard = some (j, want)) (b : Bool) (hy : yielded ops a.tmps j = some b) (hw : b = want) (x : Operand) (ho : o.op = .load T' x) (hx : a.eval x = .pointer (some ⟨g, 0, none⟩)) (hu : P.underlying T' = some (.array m e)) (hi : (P.info? T').map (·.size) = some n)
    (h : wpList P ops Q rest (a.put o.dst (.agg (vec n F))) W) : wpList P ops Q (o :: rest) a W :=
  wpList_step fun K hK => by rw [if_pos (show Region.wanted o (yielded ops a.tmps) = true by unfold Region.wanted; rw [hg]; simp only [hy, hw, beq_self_eq_true])]; exact wp_load_row T' x ho g hx T (vec n F) (0, 0) _ hb hu rfl (by rw [hi, vec_size]) (hK _ _ h)
theorem exec_fieldSw {ρ : Operand → Value} {o : Oper} {w : World} {x : Operand} {g k : Nat} (ho : o.op = .fieldAddr 117 x k) (hx : ρ x = .pointer (some ⟨g, 0, none⟩)) (hk : k < 4) : (execOp ρ o).run Try.prog w = .ok (.value (.pointer (some ⟨g, k, none⟩))) w := by
  unfold execOp
  simp only [ho, hx]
  have : k = 0 ∨ k = 1 ∨ k = 2 ∨ k = 3 := by omega
  rcases this with rfl | rfl | rfl | rfl <;> go_simp
theorem exec_loadInt {ρ : Operand → Value} {o : Oper} {w : World} {x : Operand} {g k : Nat} {z : Int} (ho : o.op = .load 3 x) (hx : ρ x = .pointer (some ⟨g, k, none⟩)) (hc : w.cell? ⟨g, k, none⟩ = some (.int .i64 z)) : (execOp ρ o).run Try.prog w = .ok (.value (.int .i64 z)) w := by
  unfold execOp
  simp only [ho, hx]
  go_simp
end Go.Proofs.Ytiajdmoppgpgnaa
/-
  switched of the program: an image after one of its switches.
-/
namespace Go.Proofs.Ytiajdmoppgpgnaa
open Go.RowKit

def pickN (a b i : Nat) : Nat := if i = 0 then a else b
def flipAt (F : Nat → Int) (p : Nat) : Nat → Int := fun j => if j = p then 1 - F p else F j
/-- The cells after the first n of the four. -/
def stepF (F : Nat → Int) (a b c d : Nat) : Nat → Nat → Int
  | 0 => F
  | n + 1 => flipAt (stepF F a b c d n) (5 * pickN a b (n / 2) + pickN c d (n % 2))
theorem stepF_small {F : Nat → Int} (h : ∀ i, F i = -1 ∨ F i = 0 ∨ F i = 1) (a b c d : Nat) : ∀ n i : Nat, -((n : Int) + 1) ≤ stepF F a b c d n i ∧ stepF F a b c d n i ≤ (n : Int) + 2
  | 0, i => by have := h i; unfold stepF; omega
  | n + 1, i => by
    have h1 := stepF_small h a b c d n i
    have h2 := stepF_small h a b c d n (5 * pickN a b (n / 2) + pickN c d (n % 2))
    unfold stepF flipAt
    split <;> omega
theorem stepF_all {F : Nat → Int} {a b c d : Nat} (hab : a ≠ b) (hcd : c ≠ d) (hc : c < 5) (hd : d < 5) : ∀ i, i < 25 → stepF F a b c d 4 i = if (i / 5 = a ∨ i / 5 = b) ∧ (i % 5 = c ∨ i % 5 = d) then 1 - F i else F i := by
  intro i hi
  have e : stepF F a b c d 4 = flipAt (flipAt (flipAt (flipAt F (5 * a + c)) (5 * a + d)) (5 * b + c)) (5 * b + d) := rfl
  rw [e]
  unfold flipAt
  by_cases h1 : i = 5 * a + c
  · subst h1
    rw [if_neg (by omega), if_neg (by omega), if_neg (by omega), if_pos rfl, if_pos (by omega)]
  · by_cases h2 : i = 5 * a + d
    · subst h2
      rw [if_neg (by omega), if_neg (by omega), if_pos rfl, if_neg (by omega), if_pos (by omega)]
    · by_cases h3 : i = 5 * b + c
      · subst h3
        rw [if_neg (by omega), if_pos rfl, if_neg (by omega), if_neg (by omega), if_pos (by omega)]
      · by_cases h4 : i = 5 * b + d
        · subst h4
          rw [if_pos rfl, if_neg (by omega), if_neg (by omega), if_neg (by omega), if_pos (by omega)]
        · rw [if_neg h4, if_neg h3, if_neg h2, if_neg h1, if_neg (by omega)]
theorem stepF_img {R C : Nat} {f : Nat → Nat → Int} {a b c d : Nat} (h : four R C f a b c d = true) (hC : C ≤ 5) : ∀ i, i < 25 → stepF (imgF R C f) a b c d 4 i = imgF R C (flipN f a b c d) i := by
  obtain ⟨h1, h2, h3, h4, -⟩ := four_iff.1 h
  intro i hi
  rw [stepF_all (by omega) (by omega) (by omega) (by omega) i hi]
  unfold imgF flipN
  by_cases hh : i / 5 < R ∧ i % 5 < C
  · rw [if_pos hh, if_pos hh]
  · rw [if_neg hh, if_neg hh, if_neg]
    omega
theorem vec_two (a b : Nat) : #[Value.int .i64 (a : Int), Value.int .i64 (b : Int)] = vec 2 fun i => ((pickN a b i : Nat) : Int) := rfl
theorem swAt_set {w : World} {g : Nat} {s : Sw} (h : SwAt w g s) (a : Addr) (v : Value) (hne : g ≠ a.block) : SwAt (w.setCell a v) g s := by
  unfold SwAt; rw [heap_setCell_other w a g v hne]; exact h
theorem exec_indexAt {P : Program} {ρ : Operand → Value} {o : Oper} {w : World} {x i : Operand} {T E : TypeId} {g b m s : Nat} (k q : Nat) (ho : o.op = .indexAddr T x i) (hx : ρ x = .pointer (some ⟨g, b, none⟩)) (hi : ρ i = .int .i64 k) (hu : P.underlying T = some (.array m E)) (hs : ∀ w, (sizeOf E).run P w = .ok s w) (hk : k < m) (hq : b + k * s = q) :
    (execOp ρ o).run P w = .ok (.value (.pointer (some ⟨g, q, none⟩))) w := by
  subst hq
  unfold execOp
  simp only [ho, hx, hi, Instr.indexAt, Instr.sureAddr, Sem.run_bind, asIntOf, Sem.run_pure, Result.andThen_ok, run_underlying hu]
  rw [if_pos ⟨by omega, by omega⟩]
  simp only [Sem.run_bind, hs, Result.andThen_ok, Int.toNat_natCast, addr_add]
  simp
theorem exec_storeInt {ρ : Operand → Value} {o : Oper} {w : World} {x y : Operand} {g k : Nat} {u v : Int} (ho : o.op = .store 3 x y) (hx : ρ x = .pointer (some ⟨g, k, none⟩)) (hy : ρ y = .int .i64 v) (h1 : w.cell? ⟨g, k, none⟩ = some (.int .i64 u)) (f1 : w.frozen? ⟨g, k, none⟩ = false) :
    (execOp ρ o).run Try.prog w = .ok .skip (w.setCell ⟨g, k, none⟩ (.int .i64 v)) := by
  unfold execOp
  simp only [ho, hx, hy]
  go_simp

end Go.Proofs.Ytiajdmoppgpgnaa
/-
  A map of switches keyed by images, told by its entries.
-/
namespace Go.Proofs.Ytiajdmoppgpgnaa
open Go.RowKit
set_option maxRecDepth 100000

theorem Try.laidOutM : laidOutB Try.prog = true := by kernel_rfl
theorem Try.keyTyM : Try.prog.keyType 97 = true := by kernel_rfl
theorem Try.cellsImg : Try.prog.cellsOf 97 = 25 := by kernel_rfl
theorem Try.cellsRow5 : Try.prog.cellsOf 95 = 5 := by kernel_rfl
theorem Try.cellsI : Try.prog.cellsOf 3 = 1 := by kernel_rfl
theorem Try.imgLaw : Maps.Keyed Try.prog 97 := Maps.Keyed.of_law (deep_law_gate Try.laidOutM (of_decide_eq_true (by kernel_rfl)) (of_decide_eq_true (by kernel_rfl)) Try.keyTyM (by rw [Try.underlying97]))
theorem mapM_some {α β : Type} (f : α → Option β) : ∀ l : List α, (∀ x ∈ l, ∃ y, f x = some y) → ∃ ys, l.mapM f = some ys
  | [], _ => ⟨[], rfl⟩
  | x :: l, h => by
    obtain ⟨y, hy⟩ := h x (by simp)
    obtain ⟨ys, hys⟩ := mapM_some f l fun z hz => h z (by simp [hz])
    exact ⟨y :: ys, by simp [List.mapM_cons, hy, hys]⟩
theorem intLitM (d : Nat) (x : Int) (h : (Lit.int .i64 x).wf = true) : ∃ l, Try.prog.keyLits (d + 1) 3 [.int .i64 x] = some l := by
  unfold Program.keyLits
  rw [Try.underlying3]
  exact ⟨_, if_pos ⟨rfl, h⟩⟩
theorem rowLitM (d : Nat) (F : Nat → Int) (h : ∀ i, (Lit.int .i64 (F i)).wf = true) : ∃ l, Try.prog.keyLits (d + 2) 95 (vecL 5 F) = some l := by
  unfold Program.keyLits
  rw [Try.underlying95]
  simp only [Try.cellsRow5, Try.cellsI, vecL_len, if_true]
  obtain ⟨ys, hys⟩ := mapM_some (fun i => Try.prog.keyLits (d + 1) 3 (((vecL 5 F).drop (i * 1)).take 1)) (List.range 5) fun i hi => by
    have hi' := List.mem_range.1 hi
    have e : ((vecL 5 F).drop (i * 1)).take 1 = [.int .i64 (F i)] := by
      apply List.ext_getElem
      · simp [vecL]; omega
      · intro j h1 h2
        obtain rfl : j = 0 := by simp at h2; omega
        simp [vecL]
    obtain ⟨l, hl⟩ := intLitM d (F i) (h i)
    exact ⟨l, by rw [e]; exact hl⟩
  exact ⟨ys.flatten, by rw [hys]; rfl⟩
theorem imgLitM (d : Nat) (F : Nat → Int) (h : ∀ i, (Lit.int .i64 (F i)).wf = true) : ∃ l, Try.prog.keyLits (d + 3) 97 (vecL 25 F) = some l := by
  unfold Program.keyLits
  rw [Try.underlying97]
  simp only [Try.cellsImg, Try.cellsRow5, vecL_len, if_true]
  obtain ⟨ys, hys⟩ := mapM_some (fun i => Try.prog.keyLits (d + 2) 95 (((vecL 25 F).drop (i * 5)).take 5)) (List.range 5) fun i hi => by
    have hi' := List.mem_range.1 hi
    have e : ((vecL 25 F).drop (i * 5)).take 5 = vecL 5 fun j => F (i * 5 + j) := by
      apply List.ext_getElem
      · simp [vecL]; omega
      · intro j h1 h2
        simp [vecL]
    obtain ⟨l, hl⟩ := rowLitM d (fun j => F (i * 5 + j)) fun j => h _
    exact ⟨l, by rw [e]; exact hl⟩
  exact ⟨ys.flatten, by rw [hys]; rfl⟩
/-- Cells of an image. -/
def WfI (F : Nat → Int) : Prop := ∀ i, F i = -1 ∨ F i = 0 ∨ F i = 1
theorem wfI_lit {F : Nat → Int} (h : WfI F) (i : Nat) : (Lit.int .i64 (F i)).wf = true := by
  rcases h i with e | e | e <;> rw [e] <;> decide
theorem img_key {F : Nat → Int} (h : WfI F) : ∃ l, keyOf Try.prog 97 (.agg (vec 25 F)) = some l := by
  have hs : ∃ d, Try.prog.types.size + 1 = d + 3 := ⟨Try.prog.types.size - 2, by have : 3 ≤ Try.prog.types.size := of_decide_eq_true (by kernel_rfl); omega⟩
  obtain ⟨d, hd⟩ := hs
  obtain ⟨L, hL⟩ := imgLitM d F (wfI_lit h)
  have hf : (Value.agg (vec 25 F)).formed Try.prog 97 = true := by
    simp [Value.formed, Try.underlying97, Try.cellsImg, vec_size]
  have hc : (Value.agg (vec 25 F)).cells.toList = vecL 25 F := by simp [Value.cells, vec]
  refine ⟨.string (keyBytes L), ?_⟩
  unfold keyOf
  rw [Try.underlying97]
  simp only [Try.keyTyM, hf, Bool.and_self, if_true, hc, hd, hL, Option.map_some]
/-- The map in block b holds these entries, in this order. -/
def ImgMap (w : World) (b : Nat) (ks : List ((Nat → Int) × Sw)) : Prop :=
  ∃ (es : Array MapEntry) (clock : Nat), w.heap[b]? = some (.map es clock) ∧ es.toList.map (fun e => (e.key, e.val)) = (ks.map fun p => (Value.agg (vec 25 p.1), swV p.2)) ∧ MapKept.Stamped es clock
theorem imgMap_lt {w : World} {b : Nat} {ks : List ((Nat → Int) × Sw)} (h : ImgMap w b ks) : b < w.heap.size := by
  obtain ⟨es, c, hb, -⟩ := h
  exact (Array.getElem?_eq_some_iff.1 hb).1
theorem imgMap_heap {w w' : World} {b : Nat} {ks : List ((Nat → Int) × Sw)} (h : ImgMap w b ks) (e : w'.heap[b]? = w.heap[b]?) : ImgMap w' b ks := by
  obtain ⟨es, c, hb, hk⟩ := h
  exact ⟨es, c, e.trans hb, hk⟩
theorem imgMap_below {w w' : World} {b : Nat} {ks : List ((Nat → Int) × Sw)} (h : ImgMap w b ks) (hb : Below w.heap.size w w') : ImgMap w' b ks := imgMap_heap h (hb.block b (imgMap_lt h))
theorem imgMap_grown {w w' : World} {b : Nat} {ks : List ((Nat → Int) × Sw)} {row : Option Nat} (h : ImgMap w b ks) (hg : w.grownBy w' row) (hr : row ≠ some b) : ImgMap w' b ks := imgMap_heap h (hg.block b (imgMap_lt h) (Ne.symm hr))
theorem imgMap_made (w : World) : ImgMap (w.alloc (.map #[] 0)) w.heap.size [] := ⟨#[], 0, heap_alloc_new w _, rfl, MapKept.stamped_empty 0⟩
theorem own_not_map {w : World} {b1 e1 n1 z1 b : Nat} {v1 : Value} {xs : List Value} {ks : List ((Nat → Int) × Sw)} (h1 : w.ownsRow b1 e1 z1 v1 n1 xs) (h2 : ImgMap w b ks) : v1.ownBlock ≠ some b := by
  obtain ⟨es, c, hb, -⟩ := h2
  rcases h1.2 with ⟨rfl, _⟩ | ⟨g1, c1, cur1, rfl, _, hg1, _⟩
  · simp [Value.ownBlock]
  · intro e
    simp only [Value.ownBlock, Option.some.injEq] at e
    subst e
    rw [hg1] at hb; cases hb
theorem imgMap_keys {es : Array MapEntry} {ks : List ((Nat → Int) × Sw)} (hk : es.toList.map (fun e => (e.key, e.val)) = ks.map fun p => (Value.agg (vec 25 p.1), swV p.2)) (hw : ∀ p ∈ ks, WfI p.1) : ∀ e ∈ es.toList, ∃ l, keyOf Try.prog 97 e.key = some l := by
  intro e he
  have h1 : (e.key, e.val) ∈ es.toList.map (fun e => (e.key, e.val)) := List.mem_map.2 ⟨e, he, rfl⟩
  rw [hk] at h1
  obtain ⟨p, hp, hpe⟩ := List.mem_map.1 h1
  simp only [Prod.mk.injEq] at hpe
  obtain ⟨l, hl⟩ := img_key (hw p hp)
  exact ⟨l, by rw [← hpe.1]; exact hl⟩
end Go.Proofs.Ytiajdmoppgpgnaa
/-
  pairsBelow of the program: all pairs of numbers below 5, in order.
-/
namespace Go.Proofs.Ytiajdmoppgpgnaa
open Go.RowKit

def cellsP (l : List (Nat × Nat)) : List Value := l.flatMap fun p => [.int .i64 (p.1 : Int), .int .i64 (p.2 : Int)]
theorem cellsP_snoc (l : List (Nat × Nat)) (a b : Nat) : cellsP (l ++ [(a, b)]) = cellsP l ++ #[Value.int .i64 (a : Int), .int .i64 (b : Int)].toList := by simp [cellsP]
/-- The pairs up to a number. -/
def upP (k : Nat) : List (Nat × Nat) := ((List.range k).filter fun c => decide (c / 5 < c % 5)).map fun c => (c / 5, c % 5)
theorem upP_yes {k : Nat} (h : k / 5 < k % 5) : upP (k + 1) = upP k ++ [(k / 5, k % 5)] := by
  unfold upP; rw [List.range_succ, List.filter_append, List.map_append]; simp [h]
theorem upP_no {k : Nat} (h : ¬ k / 5 < k % 5) : upP (k + 1) = upP k := by
  unfold upP; rw [List.range_succ, List.filter_append, List.map_append]; simp [h]
theorem upP_skip {k l : Nat} (hkl : k ≤ l) (h : ∀ i, k ≤ i → i < l → ¬ i / 5 < i % 5) : upP l = upP k := by
  induction l with
  | zero => obtain rfl : k = 0 := by omega
            rfl
  | succ l ih =>
    by_cases e : k = l + 1
    · rw [e]
    · rw [upP_no (h l (by omega) (by omega)), ih (by omega) fun i h1 h2 => h i h1 (by omega)]
theorem upP_len (k : Nat) : (upP k).length ≤ k := by
  unfold upP; rw [List.length_map]
  exact Nat.le_trans (List.length_filter_le _ _) (by rw [List.length_range]; exact Nat.le_refl _)
end Go.Proofs.Ytiajdmoppgpgnaa
/-
  switches of the program: all switches of an image, in order.
-/
namespace Go.Proofs.Ytiajdmoppgpgnaa
open Go.RowKit

def kp (p : Nat) : Nat := [1, 2, 3, 4, 7, 8, 9, 13, 14, 19].getD p 25
theorem pairs_len : (upP 25).length = 10 := by decide +kernel
theorem pairs_at : ∀ p, p < 10 → (upP 25)[p]? = some (kp p / 5, kp p % 5) := by decide +kernel
theorem kp_in : ∀ p, p < 10 → kp p < 25 ∧ kp p / 5 < kp p % 5 := by decide +kernel
theorem kp_next : ∀ p, p < 10 → kp p < kp (p + 1) ∧ kp (p + 1) ≤ 25 ∧ ∀ c, c < 25 → kp p < c → c < kp (p + 1) → ¬ c / 5 < c % 5 := by decide +kernel
theorem kp_zero : kp 0 = 1 := rfl
theorem kp_ten : kp 10 = 25 := rfl
theorem cellsP_at : ∀ (l : List (Nat × Nat)) (i a b : Nat), l[i]? = some (a, b) → (cellsP l)[i * 2]? = some (.int .i64 (a : Int)) ∧ (cellsP l)[i * 2 + 1]? = some (.int .i64 (b : Int))
  | [], i, a, b, h => by simp at h
  | p :: l, 0, a, b, h => by
    simp only [List.getElem?_cons_zero, Option.some.injEq] at h
    subst h
    exact ⟨rfl, rfl⟩
  | p :: l, i + 1, a, b, h => by
    have := cellsP_at l i a b (by simpa using h)
    have e : cellsP (p :: l) = [.int .i64 (p.1 : Int), .int .i64 (p.2 : Int)] ++ cellsP l := by simp [cellsP]
    rw [e]
    refine ⟨?_, ?_⟩
    · rw [List.getElem?_append_right (by simp; omega)]
      simpa [show (i + 1) * 2 - 2 = i * 2 by omega] using this.1
    · rw [List.getElem?_append_right (by simp; omega)]
      simpa [show (i + 1) * 2 + 1 - 2 = i * 2 + 1 by omega] using this.2
theorem swB_order {m : List (List Int)} {i : Nat} (h : ¬ (i / 125 < i / 25 % 5 ∧ i / 5 % 5 < i % 5)) : swB m (decS i) = false := by
  rw [Bool.eq_false_iff]
  intro e
  obtain ⟨a, b, c, d, e1, h1⟩ := swF_iff.1 e
  obtain ⟨h2, h3, -⟩ := four_iff.1 h1
  unfold decS at e1
  simp only [Sw.mk.injEq] at e1
  omega
theorem dec_pair (p q : Nat) (hq : q < 25) : decS (25 * p + q) = ⟨((p / 5 : Nat) : Int), ((p % 5 : Nat) : Int), ((q / 5 : Nat) : Int), ((q % 5 : Nat) : Int)⟩ := by
  unfold decS
  rw [show (25 * p + q) / 125 = p / 5 by omega, show (25 * p + q) / 25 % 5 = p % 5 by omega, show (25 * p + q) / 5 % 5 = q / 5 by omega, show (25 * p + q) % 5 = q % 5 by omega]
theorem upS_in (m : List (List Int)) (p : Nat) : upS m (25 * p + kp 0) = upS m (25 * p) :=
  upS_skip (by omega) fun i h1 h2 => swB_order (by rw [kp_zero] at h2; omega)
theorem upS_q (m : List (List Int)) (p q : Nat) (hq : q < 10) : upS m (25 * p + kp (q + 1)) = upS m (25 * p + kp q + 1) := by
  obtain ⟨h1, h2, h3⟩ := kp_next q hq
  refine upS_skip (by omega) fun i g1 g2 => swB_order ?_
  have := h3 (i - 25 * p) (by omega) (by omega) (by omega)
  omega
theorem upS_p (m : List (List Int)) (p : Nat) (hp : p < 10) : upS m (25 * kp (p + 1)) = upS m (25 * kp p + kp 10) := by
  obtain ⟨h1, h2, h3⟩ := kp_next p hp
  rw [kp_ten]
  refine upS_skip (by omega) fun i g1 g2 => swB_order ?_
  have := h3 (i / 25) (by omega) (by omega) (by omega)
  omega
theorem upS_first (m : List (List Int)) : upS m (25 * kp 0) = [] := by
  rw [upS_skip (k := 0) (by omega) fun i _ h2 => swB_order (by rw [kp_zero] at h2; omega)]; rfl
theorem own_not_blk {w : World} {b1 e1 n1 z1 g n : Nat} {T : TypeId} {F : Nat → Int} {v1 : Value} {xs : List Value} (h1 : w.ownsRow b1 e1 z1 v1 n1 xs) (h2 : Blk w g T n F) (hne : e1 ≠ T) : v1.ownBlock ≠ some g := by
  rcases h1.2 with ⟨rfl, _⟩ | ⟨g1, c1, cur1, rfl, _, hg1, _⟩
  · simp [Value.ownBlock]
  · intro e
    simp only [Value.ownBlock, Option.some.injEq] at e
    subst e
    unfold Blk at h2
    rw [hg1] at h2
    simp only [Option.some.injEq, Obj.cells.injEq] at h2
    exact hne h2.2.1
end Go.Proofs.Ytiajdmoppgpgnaa
/-
  What the search meets: images as keys, a queue of images, the map of the last switches.
-/
namespace Go.Proofs.Ytiajdmoppgpgnaa
open Go.RowKit
set_option maxRecDepth 100000

theorem vec_inj {n : Nat} {F G : Nat → Int} (h : vec n F = vec n G) : ∀ i, i < n → F i = G i := fun i hi => by
  have h1 := vec_at n F i hi
  rw [h, vec_at n G i hi] at h1
  simpa using h1.symm
/-- The cells of an image, by number. -/
def imgC (R C : Nat) (x : List (List Int)) : Nat → Int := imgF R C (cellM x)
theorem imgC_mk (R C : Nat) (f : Nat → Nat → Int) : imgC R C (mkM R C f) = imgF R C f := by
  funext i
  unfold imgC imgF
  by_cases h : i / 5 < R ∧ i % 5 < C
  · rw [if_pos h, if_pos h]; exact cell_mk R C f h.1 h.2
  · rw [if_neg h, if_neg h]
theorem imgC_wf {R C : Nat} {x : List (List Int)} (h : Node R C x) : WfI (imgC R C x) := by
  obtain ⟨f, rfl, hI⟩ := h
  rw [imgC_mk]; exact fun i => imgF_range hI i
theorem imgC_inj {R C : Nat} {x y : List (List Int)} (hx : Node R C x) (hy : Node R C y) (h : vec 25 (imgC R C x) = vec 25 (imgC R C y)) : x = y := by
  obtain ⟨f, rfl, hI⟩ := hx
  obtain ⟨g, rfl, -⟩ := hy
  have h5 := hI.r2; have h6 := hI.c2
  rw [imgC_mk, imgC_mk] at h
  exact mkM_congr fun y x hy hx => by
    have h1 := vec_inj h (5 * y + x) (by omega)
    rw [imgF_at R C f y x (by omega), imgF_at R C g y x (by omega), if_pos ⟨hy, hx⟩, if_pos ⟨hy, hx⟩] at h1
    exact h1
/-- Whether two images are the same. -/
theorem img_key2 {F : Nat → Int} (h : WfI F) : ∃ L, Try.prog.keyLits (Try.prog.types.size + 1) 97 (vecL 25 F) = some L ∧ (Value.agg (vec 25 F)).formed Try.prog 97 = true ∧ keyOf Try.prog 97 (.agg (vec 25 F)) = some (.string (keyBytes L)) := by
  have hs : ∃ d, Try.prog.types.size + 1 = d + 3 := ⟨Try.prog.types.size - 2, by have : 3 ≤ Try.prog.types.size := of_decide_eq_true (by kernel_rfl); omega⟩
  obtain ⟨d, hd⟩ := hs
  obtain ⟨L, hL⟩ := imgLitM d F (wfI_lit h)
  have hf : (Value.agg (vec 25 F)).formed Try.prog 97 = true := by
    simp [Value.formed, Try.underlying97, Try.cellsImg, vec_size]
  have hc : (Value.agg (vec 25 F)).cells.toList = vecL 25 F := by simp [Value.cells, vec]
  refine ⟨L, by rw [hd]; exact hL, hf, ?_⟩
  unfold keyOf
  rw [Try.underlying97]
  simp only [Try.keyTyM, hf, Bool.and_self, if_true, hc, hd, hL, Option.map_some]
theorem run_eqImg {F G : Nat → Int} (hF : WfI F) (hG : WfI G) (b : Bool) (hb : b = true ↔ vec 25 F = vec 25 G) (w : World) : (binOp .eql 97 (.agg (vec 25 F)) (.agg (vec 25 G))).run Try.prog w = .ok (.bool b) w := by
  obtain ⟨la, ha, fa, ka⟩ := img_key2 hF
  obtain ⟨lb, hl, fb, kb⟩ := img_key2 hG
  have hm : Try.prog.types.size + 1 ≤ 10000 := of_decide_eq_true (by kernel_rfl)
  obtain ⟨r, hr, hiff⟩ := run_equalIn_deep (10000 - (Try.prog.types.size + 1)) (Try.prog.types.size + 1) 97 Try.keyTyM w _ _ (.agg (vec 25 F)) (.agg (vec 25 G)) la lb fa fb (by rw [show (Value.agg (vec 25 F)).cells.toList = vecL 25 F by simp [Value.cells, vec]]; exact ha) (by rw [show (Value.agg (vec 25 G)).cells.toList = vecL 25 G by simp [Value.cells, vec]]; exact hl)
  rw [show 10000 - (Try.prog.types.size + 1) + (Try.prog.types.size + 1) = 10000 by omega] at hr
  have he : r = b := by
    rw [Bool.eq_iff_iff, hiff, hb]
    constructor
    · intro e
      subst e
      have := Try.imgLaw.inj ka kb
      simpa using this
    · intro e
      have e2 : vecL 25 F = vecL 25 G := by simpa [vec] using e
      rw [e2, hl] at ha
      exact (Option.some.inj ha).symm
  rw [← he]
  simp only [binOp]
  simp [Op.equal, Op.maxDepth, hr]

/-- The cells of images, one behind the other. -/
def queL (R C : Nat) (l : List (List (List Int))) : List Value := l.flatMap fun x => vecL 25 (imgC R C x)
theorem queL_nil (R C : Nat) : queL R C [] = [] := rfl
theorem queL_cons (R C : Nat) (x : List (List Int)) (l : List (List (List Int))) : queL R C (x :: l) = vecL 25 (imgC R C x) ++ queL R C l := by simp [queL]
theorem queL_snoc (R C : Nat) (x : List (List Int)) (l : List (List (List Int))) : queL R C (l ++ [x]) = queL R C l ++ vecL 25 (imgC R C x) := by simp [queL]
theorem queL_tail (R C : Nat) (l : List (List (List Int))) {a : Nat} (h : a < l.length) : (queL R C (l.drop a)).drop 25 = queL R C (l.drop (a + 1)) := by
  rw [List.drop_eq_getElem_cons h, queL_cons, List.drop_append_of_le_length (by rw [vecL_len]; exact Nat.le_refl _), List.drop_of_length_le (by rw [vecL_len]; exact Nat.le_refl _), List.nil_append]
theorem queL_head {R C : Nat} {l : List (List (List Int))} {a : Nat} (h : a < l.length) : queL R C (l.drop a) = vecL 25 (imgC R C (l.getD a [])) ++ queL R C (l.drop (a + 1)) := by
  rw [List.drop_eq_getElem_cons h, queL_cons]
  simp [List.getD_eq_getElem?_getD, List.getElem?_eq_getElem h]
theorem ownQ_head {w : World} {base n : Nat} {v : Value} {F : Nat → Int} {ys : List Value} (h : OwnQ w base 97 25 v (n + 1) (vecL 25 F ++ ys)) :
    ∃ g o cap, v = .slice (some ⟨g, o, none⟩) (n + 1) cap ∧ n + 1 ≤ cap ∧ base ≤ g ∧ g < w.heap.size ∧ w.rangeAt g o (vecL 25 F) := by
  obtain ⟨g, o, cap, rfl, h1, -, h2, h3, h4⟩ := ownQ_slice h
  refine ⟨g, o, cap, rfl, h1, h2, h3, fun j u hj => ?_⟩
  have hj' : j < 25 := by have := (List.getElem?_eq_some_iff.1 hj).1; rwa [vecL_len] at this
  rw [h4 j (by omega), List.getElem?_append_left (by rw [vecL_len]; exact hj')]
  exact hj
/-- The last switch of a list. -/
def lastS (p : List Sw) : Sw := p.getLastD zeroSw
theorem lastS_snoc (p : List Sw) (s : Sw) : lastS (p ++ [s]) = s := by simp [lastS]
/-- The entries of the map. -/
def ksOf (R C : Nat) (L : List (List (List Int))) (W : List (List Sw)) : List ((Nat → Int) × Sw) := (List.range L.length).map fun i => (imgC R C (L.getD i []), lastS (W.getD i []))
theorem ksOf_len (R C : Nat) (L : List (List (List Int))) (W : List (List Sw)) : (ksOf R C L W).length = L.length := by simp [ksOf]
theorem ksOf_snoc {R C : Nat} {L : List (List (List Int))} {W : List (List Sw)} (hl : W.length = L.length) (x : List (List Int)) (p : List Sw) : ksOf R C (L ++ [x]) (W ++ [p]) = ksOf R C L W ++ [(imgC R C x, lastS p)] := by
  unfold ksOf
  rw [List.length_append, List.length_singleton, List.range_succ, List.map_append]
  have e1 := getD_snoc_eq W p []
  rw [hl] at e1
  rw [List.map_singleton, getD_snoc_eq, e1]
  congr 1
  refine List.map_congr_left fun i hi => ?_
  have hi := List.mem_range.1 hi
  rw [getD_snoc_lt _ _ _ hi, getD_snoc_lt _ _ _ (by rw [hl]; exact hi)]
theorem ksOf_mem {R C : Nat} {L : List (List (List Int))} {W : List (List Sw)} {p : (Nat → Int) × Sw} (h : p ∈ ksOf R C L W) : ∃ i, i < L.length ∧ p = (imgC R C (L.getD i []), lastS (W.getD i [])) := by
  unfold ksOf at h
  obtain ⟨i, hi, rfl⟩ := List.mem_map.1 h
  exact ⟨i, List.mem_range.1 hi, rfl⟩
theorem ksOf_at {R C : Nat} {L : List (List (List Int))} {W : List (List Sw)} {i : Nat} (h : i < L.length) : (imgC R C (L.getD i []), lastS (W.getD i [])) ∈ ksOf R C L W := List.mem_map.2 ⟨i, List.mem_range.2 h, rfl⟩
section
variable {R C : Nat} {m : List (List Int)} {L : List (List (List Int))} {W : List (List Sw)} {a K : Nat}
theorem ksOf_wf (hm : Node R C m) (h : Bfs m L W a K) : ∀ p ∈ ksOf R C L W, WfI p.1 := fun p hp => by
  obtain ⟨i, hi, rfl⟩ := ksOf_mem hp
  exact imgC_wf (bfs_node hm h hi)
theorem ksOf_in (hm : Node R C m) (h : Bfs m L W a K) {x : List (List Int)} (hx : Node R C x) : (∃ p ∈ ksOf R C L W, vec 25 p.1 = vec 25 (imgC R C x)) ↔ x ∈ L := by
  constructor
  · rintro ⟨p, hp, e⟩
    obtain ⟨i, hi, rfl⟩ := ksOf_mem hp
    rw [← imgC_inj (bfs_node hm h hi) hx e]
    exact getD_mem hi
  · intro hx
    obtain ⟨i, hi, rfl⟩ := mem_getD [] hx
    exact ⟨_, ksOf_at hi, rfl⟩
end
/-- The number of the switch before number k. -/
def befS (S : List Sw) : Nat → Nat
  | 0 => 0
  | k + 1 => numS (S.getD k zeroSw)
theorem sws_up (x : List (List Int)) : (swsM x).Pairwise fun s t => numS s < numS t := by
  unfold swsM upS
  rw [List.pairwise_map]
  exact (List.pairwise_lt_range.filter _).imp fun h => by rw [num_dec, num_dec]; omega
theorem sws_num {x : List (List Int)} {i j : Nat} (hij : i < j) (hj : j < (swsM x).length) : numS ((swsM x).getD i zeroSw) < numS ((swsM x).getD j zeroSw) := by
  have h := List.pairwise_iff_getElem.1 (sws_up x) i j (by omega) hj hij
  rw [List.getD_eq_getElem?_getD, List.getD_eq_getElem?_getD, List.getElem?_eq_getElem hj, List.getElem?_eq_getElem (show i < (swsM x).length by omega)]
  exact h
theorem befS_le {x : List (List Int)} {k : Nat} (hk : k < (swsM x).length) : befS (swsM x) k ≤ numS ((swsM x).getD k zeroSw) := by
  cases k with
  | zero => exact Nat.zero_le _
  | succ k => exact Nat.le_of_lt (sws_num (Nat.lt_succ_self k) hk)
theorem befS_all {R C : Nat} {x : List (List Int)} (hx : Node R C x) {k : Nat} (hk : k < (swsM x).length) : ∀ s, swB x s = true → numS s < numS ((swsM x).getD k zeroSw) → numS s ≤ befS (swsM x) k := fun s hs hn => by
  obtain ⟨i, hi, rfl⟩ := mem_getD zeroSw ((sws_mem hx).2 hs)
  have hik : i < k := by
    rcases Nat.lt_trichotomy i k with h | rfl | h
    · exact h
    · omega
    · have := sws_num h hi; omega
  obtain ⟨q, rfl⟩ : ∃ q, k = q + 1 := ⟨k - 1, by omega⟩
  show numS _ ≤ numS _
  by_cases e : i = q
  · subst e; exact Nat.le_refl _
  · exact Nat.le_of_lt (sws_num (show i < q by omega) (by omega))
theorem befS_end {R C : Nat} {x : List (List Int)} (hx : Node R C x) : befS (swsM x) (swsM x).length ≤ 625 ∧ ∀ s, swB x s = true → numS s ≤ befS (swsM x) (swsM x).length := by
  cases hl : (swsM x).length with
  | zero =>
    refine ⟨Nat.zero_le _, fun s hs => ?_⟩
    have := (sws_mem hx).2 hs
    rw [List.eq_nil_of_length_eq_zero hl] at this
    cases this
  | succ k =>
    have hm : (swsM x).getD k zeroSw ∈ swsM x := getD_mem (by omega)
    obtain ⟨i, hi, e⟩ := swB_num hx ((sws_mem hx).1 hm)
    refine ⟨by show numS _ ≤ 625; rw [e, num_dec]; omega, fun s hs => ?_⟩
    obtain ⟨j, hj, rfl⟩ := mem_getD zeroSw ((sws_mem hx).2 hs)
    show numS _ ≤ numS _
    by_cases e : j = k
    · subst e; exact Nat.le_refl _
    · exact Nat.le_of_lt (sws_num (show j < k by omega) (by omega))
theorem sws_at {R C : Nat} {x : List (List Int)} (hx : Node R C x) {k : Nat} (hk : k < (swsM x).length) : swB x ((swsM x).getD k zeroSw) = true := (sws_mem hx).1 (getD_mem hk)
end Go.Proofs.Ytiajdmoppgpgnaa
/-
  searched of the program: a search in breadth.
-/
namespace Go.Proofs.Ytiajdmoppgpgnaa
open Go.RowKit

/-- What stands through the search. -/
def SrSt (w : World) (R C : Nat) (t : List (List Int)) (L : List (List (List Int))) (W : List (List Sw)) (a n : Nat) (q : Value) (w' : World) : Prop :=
  OwnQ w' (w.heap.size + 3) 97 25 q n (queL R C (L.drop a)) ∧ ImgMap w' (w.heap.size + 2) (ksOf R C L W) ∧ Blk w' (w.heap.size + 1) 97 25 (imgC R C t) ∧ w.heap.size + 3 ≤ w'.heap.size ∧ Below w.heap.size w w'
theorem sr_below {w w1 w2 : World} {R C : Nat} {t : List (List Int)} {L : List (List (List Int))} {W : List (List Sw)} {a n : Nat} {q : Value} (h : SrSt w R C t L W a n q w1) (hb : Below w1.heap.size w1 w2) : SrSt w R C t L W a n q w2 :=
  ⟨ownQ_below h.1 hb, imgMap_below h.2.1 hb, blk_below h.2.2.1 hb, Nat.le_trans h.2.2.2.1 hb.size, h.2.2.2.2.trans (hb.mono h.2.2.2.2.size)⟩
/-- What the search answers. -/
def SrRes (R C : Nat) (m t : List (List Int)) (w : World) (e : Ending) (w' : World) : Prop :=
  e = .returned (.map (some (w.heap.size + 2))) ∧ ∃ L W a K, Bfs m L W a K ∧ t ∈ L ∧ ImgMap w' (w.heap.size + 2) (ksOf R C L W) ∧ Below w.heap.size w w' ∧ (t = m → a = L.length)
theorem Try.infoImg : (Try.prog.info? 97).map (fun i => (i.zero, i.size, i.bytes)) = some (some (.agg (vec 25 fun _ => 0)), 25, 200) := by kernel_rfl
def mapLen (w : World) (b : Nat) : Nat := match w.heap[b]? with | some (.map es _) => es.size | _ => 0
theorem mapLen_of {w : World} {b : Nat} {ks : List ((Nat → Int) × Sw)} (h : ImgMap w b ks) : mapLen w b = ks.length := by
  obtain ⟨es, c, hb, hk, -⟩ := h
  unfold mapLen
  rw [hb]
  have := congrArg List.length hk
  simpa using this
def lenV : Value → Nat
  | .slice _ n _ => n
  | _ => 0
theorem ownQ_lenV {w : World} {base e z n : Nat} {v : Value} {xs : List Value} (h : OwnQ w base e z v n xs) : lenV v = n := by
  obtain ⟨-, g, o, cap, cur, rfl, -⟩ := h; rfl
theorem wpList_tail {P : Program} {ops : Array Oper} {rest : List Oper} {o : Oper} {a : Act} {Q : Exit → Act → World → Prop} {W : World} {base E T n z : Nat} {v : Value} {xs : List Value} (h : OwnQ W base E z v (n + 1) xs)
    (d : Tmp) (_hd : o.dst = some d) (hgd : o.guard = none) (x : Operand) (ho : o.op = .slice T x (some (.const (.int .i64 1))) none none) (hx : a.eval x = v) (hu : P.underlying T = some (.slice E)) (hs : ∀ w, (sizeOf E).run P w = .ok z w)
    (hK : ∀ v', OwnQ W base E z v' n (xs.drop z) → wpList P ops Q rest (a.put o.dst v') W) : wpList P ops Q (o :: rest) a W := by
  refine wpList_plain hgd fun K hk => ?_
  obtain ⟨h0, g, q, cap, cur, rfl, hr⟩ := id h
  unfold Oper.wp
  rw [exec_tail ho rfl hx hr.2.2.1 hu hs]
  exact hk _ _ (hK _ (ownQ_tail h))
theorem wpList_loadQ {P : Program} {ops : Array Oper} {rest : List Oper} {o : Oper} {a : Act} {Q : Exit → Act → World → Prop} {W : World} {g k : Nat} {T : TypeId} {d : TypeDesc} {F : Nat → Int} (h : W.rangeAt g k (vecL 25 F))
    (t : Tmp) (_hd : o.dst = some t) (hgd : o.guard = none) (x : Operand) (ho : o.op = .load T x) (hx : a.eval x = .pointer (some ⟨g, k, none⟩)) (hu : P.underlying T = some d) (hr : d.isRow = true) (hi : (P.info? T).map (·.size) = some 25)
    (hK : wpList P ops Q rest (a.put o.dst (.agg (vec 25 F))) W) : wpList P ops Q (o :: rest) a W :=
  wpList_load_mid hgd T x ho g k hx (vecL 25 F) d h hu hr (by rw [hi, vecL_len]) hK
theorem exec_loadQ {P : Program} {ρ : Operand → Value} {o : Oper} {W : World} {g k : Nat} {T : TypeId} {d : TypeDesc} {F : Nat → Int} {x : Operand} (h : W.rangeAt g k (vecL 25 F)) (ho : o.op = .load T x) (hx : ρ x = .pointer (some ⟨g, k, none⟩)) (hu : P.underlying T = some d) (hr : d.isRow = true) (hi : (P.info? T).map (·.size) = some 25) :
    (execOp ρ o).run P W = .ok (.value (.agg (vec 25 F))) W := by
  unfold execOp
  simp only [ho, hx]
  rw [Sem.run_bind, run_loadAt_mid W g k T (vecL 25 F) d h hu hr (by rw [hi, vecL_len])]
  rfl
theorem sws_cell {w : World} {lo g n c : Nat} {l : List Sw} (h : OwnSws w lo (.slice (some ⟨g, 0, none⟩) n c) l) (k : Nat) (hk : k < l.length) : SwC w g (k * 4) (l.getD k zeroSw) := by
  have := ownSws_cells h k hk
  rwa [show l.getD k zeroSw = l[k] by simp [List.getD_eq_getElem?_getD, List.getElem?_eq_getElem hk]]
theorem exec_allocV {P : Program} {ρ : Operand → Value} {o : Oper} {w : World} {T : TypeId} (n : Nat) (ho : o.op = .alloc T) (hz : ∀ w, (zeroValue T).run P w = .ok (.agg (vec n fun _ => 0)) w) :
    (execOp ρ o).run P w = .ok (.value (.pointer (some ⟨w.heap.size, 0, none⟩))) (w.alloc (.cells (vec n fun _ => 0) T)) := by
  unfold execOp
  simp only [ho, Instr.alloc, Sem.run_bind, hz, Result.andThen_ok]
  rfl
theorem exec_storeV {P : Program} {W : World} {g n : Nat} {T T' : TypeId} {F0 : Nat → Int} (F : Nat → Int) (hb : Blk W g T n F0) (hi : (P.info? T').map (·.size) = some n) :
    ∃ w', (∀ (ρ : Operand → Value) (o : Oper) (x y : Operand), o.op = .store T' x y → ρ x = .pointer (some ⟨g, 0, none⟩) → ρ y = .agg (vec n F) → (execOp ρ o).run P W = .ok .skip w') ∧ Blk w' g T n F ∧ W.grownBy w' (some g) ∧ w'.heap.size = W.heap.size := by
  refine ⟨_, fun ρ o x y ho hx hy => ?_, setRow_heap W g _ (vec n F) T (0, 0) hb, ⟨rfl, rfl, rfl, by simp, fun k hk hr => setRow_other W g k _ (fun e => hr (by rw [e]))⟩, by simp⟩
  unfold execOp
  simp only [ho, hx, hy, Instr.storeAt, Instr.sureAddr, Sem.run_bind, Sem.run_pure, Result.andThen_ok, run_storeVar_row W g T T' (vec n F0) (vec n F) hb (by rw [hi, vec_size]) (by simp [vec_size]) (vec_one n F)]
/-- A new image, in a block from B on. -/
def newB (B : Nat) : FactP := fun u w2 => ∃ G, u = .pointer (some ⟨G, 0, none⟩) ∧ B ≤ G ∧ Blk w2 G 97 25 fun _ => 0
theorem stable_newB (B : Nat) : StableP (newB B) := fun _ _ _ hb h => ⟨h.choose, h.choose_spec.1, h.choose_spec.2.1, blk_below h.choose_spec.2.2 hb⟩
theorem range_below {w w' : World} {g k : Nat} {cs : List Value} (h : w.rangeAt g k cs) (hb : Below w.heap.size w w') (hg : g < w.heap.size) : w'.rangeAt g k cs := fun j v hj => below_cell hb hg (h j v hj)
theorem zImg_cells : (Value.agg (vec 25 fun _ => 0)).cells.size = 25 := vec_size _ _
theorem start_facts (w : World) (F G : Nat → Int) : Blk (((w.alloc (.cells (vec 25 F) 97)).alloc (.cells (vec 25 G) 97)).alloc (.map #[] 0)) w.heap.size 97 25 F ∧
    Blk (((w.alloc (.cells (vec 25 F) 97)).alloc (.cells (vec 25 G) 97)).alloc (.map #[] 0)) (w.heap.size + 1) 97 25 G ∧
    ImgMap (((w.alloc (.cells (vec 25 F) 97)).alloc (.cells (vec 25 G) 97)).alloc (.map #[] 0)) (w.heap.size + 1 + 1) [] ∧
    Below w.heap.size w (((w.alloc (.cells (vec 25 F) 97)).alloc (.cells (vec 25 G) 97)).alloc (.map #[] 0)) ∧
    (((w.alloc (.cells (vec 25 F) 97)).alloc (.cells (vec 25 G) 97)).alloc (.map #[] 0)).heap.size = w.heap.size + 3 := by
  obtain ⟨w1, h1⟩ : ∃ w1, w1 = w.alloc (.cells (vec 25 F) 97) := ⟨_, rfl⟩
  have a1 : Below w.heap.size w w1 := by rw [h1]; exact (Below.refl _ _).alloc (Nat.le_refl _) _
  have b1 : Blk w1 w.heap.size 97 25 F := by rw [h1]; exact heap_alloc_new w _
  have s1 : w1.heap.size = w.heap.size + 1 := by rw [h1]; simp
  rw [← h1]
  clear h1
  obtain ⟨w2, h2⟩ : ∃ w2, w2 = w1.alloc (.cells (vec 25 G) 97) := ⟨_, rfl⟩
  have a2 : Below w1.heap.size w1 w2 := by rw [h2]; exact (Below.refl _ _).alloc (Nat.le_refl _) _
  have b2 : Blk w2 w1.heap.size 97 25 G := by rw [h2]; exact heap_alloc_new w1 _
  have s2 : w2.heap.size = w1.heap.size + 1 := by rw [h2]; simp
  rw [← h2]
  clear h2
  have a3 := (Below.refl w2.heap.size w2).alloc (Nat.le_refl _) (.map #[] 0)
  have m3 := imgMap_made w2
  rw [s1] at b2
  rw [s2, s1] at m3
  exact ⟨blk_below (blk_below b1 a2) a3, blk_below b2 a3, m3, a1.trans ((a2.mono a1.size).trans (a3.mono (Nat.le_trans a1.size a2.size))), by simp; omega⟩
end Go.Proofs.Ytiajdmoppgpgnaa
