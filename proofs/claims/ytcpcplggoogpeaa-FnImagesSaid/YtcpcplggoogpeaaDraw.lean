/-
  The images that the laws draw: l02Draw, MakeImage, MakeSized.
-/
import Derived.Test.YtcpcplggoogpeaaSpecT
import Derived.Test.YtcpcplggoogpeaaCur
namespace Go.Proofs.Ytcpcplggoogpeaa
open Go.RowKit

theorem curAt_within {w w' : World} {B n : Nat} {a : Option Addr} (h : CurAt w B a n) (hb : w'.heap[B]? = w.heap[B]?) : CurAt w' B a n := by
  obtain ⟨c, i, k, h1, h2, h3⟩ := h
  exact ⟨c, i, k, by rw [hb]; exact h1, h2, h3⟩
theorem curAt_lt {w : World} {B n : Nat} {a : Option Addr} (h : CurAt w B a n) : B < w.heap.size := by
  obtain ⟨c, i, k, h1, -⟩ := h
  exact (Array.getElem?_eq_some_iff.1 h1).1
theorem curAt_below {w w' : World} {B n : Nat} {a : Option Addr} (h : CurAt w B a n) (hb : Below w.heap.size w w') : CurAt w' B a n := curAt_within h (hb.block B (curAt_lt h))
theorem ownMat_cur {w w' : World} {lo hi B : Nat} {v : Value} {m : List (List Int)} (h : OwnMat w lo hi v m) (hg : w.grownBy w' (some B)) (hB : B < lo) : OwnMat w' lo hi v m :=
  ownMat_within h (within_grown (lo := B) (hi := B + 1) hg fun k hk => by cases hk; exact ⟨Nat.le_refl _, Nat.lt_succ_self _⟩) (.inr hB)
theorem grown_undrew {w w' : World} {row : Option Nat} (h : w.drew.grownBy w' row) : w.grownBy w' row := ⟨h.os, h.tape, h.output, h.size, h.block⟩
theorem cells_kept {w w' : World} {B gv y gr x : Nat} {u z : Value} (h : w.drew.grownBy w' (some B)) (h1 : w.cell? ⟨gv, y, none⟩ = some u) (h2 : w.cell? ⟨gr, x, none⟩ = some z) (h3 : w.frozen? ⟨gr, x, none⟩ = false) (n1 : gv ≠ B) (n2 : gr ≠ B) :
    w'.cell? ⟨gv, y, none⟩ = some u ∧ w'.cell? ⟨gr, x, none⟩ = some z ∧ w'.frozen? ⟨gr, x, none⟩ = false := by
  have hg := grown_undrew h
  refine ⟨hg.cell h1 (by simpa using n1), hg.cell h2 (by simpa using n2), ?_⟩
  have hlt : gr < w.heap.size := World.block_lt_of_cell? w _ h2
  rw [World.frozen?_of_block (w := w) (a := ⟨gr, x, none⟩) (hg.block gr hlt (by simpa using n2))]; exact h3
theorem img_upd {R C : Nat} {f : Nat → Nat → Int} (h : Img R C f) (y x : Nat) {z : Int} (hz : z = 0 ∨ z = 1) : Img R C fun a b => if a = y ∧ b = x then z else f a b :=
  ⟨h.r1, h.r2, h.c1, h.c2, fun a b ha hb => by
    show (if a = y ∧ b = x then z else f a b) = 0 ∨ (if a = y ∧ b = x then z else f a b) = 1
    split
    · exact hz
    · exact h.cell a b ha hb⟩

theorem ownMat_apart {w : World} {lo hi g n c g' n' c' : Nat} {m : List (List Int)} (h : OwnMat w lo hi (.slice (some ⟨g, 0, none⟩) n c) m) (i : Nat) (h' : i < m.length) (hc : w.cell? ⟨g, i, none⟩ = some (.slice (some ⟨g', 0, none⟩) n' c')) : g ≠ g' := by
  obtain ⟨vs, ho, -, hr, -⟩ := h
  have hn : n = m.length := by
    rcases ho.2 with ⟨e, _⟩ | ⟨g2, cap, cur, e, _⟩
    · cases e
    · cases e; rfl
  subst hn
  have h1 := cell_held ho h'
  rw [hc, Option.some.injEq] at h1
  rcases own_types ho (hr i h').1 (by decide) with e | e
  · cases e
  · rw [← h1] at e
    simpa [Value.ownBlock] using e
/-- What the laws draw: some image; the cursor in its place; nothing below it touched. -/
def DrawnImg (w : World) (B : Nat) (a : Option Addr) (n : Nat) (e : Ending) (w' : World) : Prop :=
  ∃ (v : Value) (R C : Nat) (f : Nat → Nat → Int), e = .returned v ∧ Img R C f ∧ OwnMat w' w.heap.size w'.heap.size v (mkM R C f) ∧ CurAt w' B a n ∧ Below B w w'

set_option maxRecDepth 100000 in
set_option maxHeartbeats 1000000 in
theorem l02Draw_any (B n : Nat) (a : Option Addr) (most : Nat) (w : World) (base : Nat) (hm0 : 1 ≤ most) (hm1 : most ≤ 5) (hc : CurAt w B a n) (hin : InBytes w base a n) (hbase : base ≤ B) :
    Calls Try.prog 42 #[.pointer (some ⟨B, 0, none⟩), .int .i64 most] w (DrawnImg w B a n) := by
  have HC := hide hc; have HI := hide hin
  have hBw := curAt_lt hc
  clear hc hin
  go_enter Try.func42, Try.ntmps42
  go_wp2_with fail
  refine (l01Below_any B n a most _ base (by omega) (by omega) HC.out HI.out hbase).mono ?_
  rintro e w1 ⟨x1, hx10, hx11, rfl, hc1, hg1⟩
  have HC1 := hide hc1; have HI1 := hide (inBytes_grown HI.out hg1 hbase); have HG1 := hide hg1
  clear hc1 hg1
  go_wp2_with fail
  refine (l01Below_any B n a most _ base (by omega) (by omega) HC1.out HI1.out hbase).mono ?_
  rintro e w2 ⟨x2, hx20, hx21, rfl, hc2, hg2⟩
  have HC2 := hide hc2; have HI2 := hide (inBytes_grown HI1.out hg2 hbase); have HG2 := hide (grown_trans HG1.out hg2)
  clear hc2 hg2
  obtain ⟨R, hR⟩ : ∃ R : Nat, 1 + x1 = R := ⟨(1 + x1).toNat, by omega⟩
  obtain ⟨C, hC⟩ : ∃ C : Nat, 1 + x2 = C := ⟨(1 + x2).toNat, by omega⟩
  have hR5 : 1 ≤ R ∧ R ≤ 5 := by omega
  have hC5 : 1 ≤ C ∧ C ≤ 5 := by omega
  obtain rfl : x1 = R - 1 := by omega
  obtain rfl : x2 = C - 1 := by omega
  have k1 : 1 + ((R : Int) - 1) = R := by omega
  have k2 : 1 + ((C : Int) - 1) = C := by omega
  clear hR hC
  go_wp2_with fail
  refine (l02Empty_any R C _ hR5.2 hC5.2).mono ?_
  rintro e w3 ⟨v3, rfl, o3, b3⟩
  clear k1 k2
  obtain ⟨gv, cv, rfl⟩ := ownMat_some o3 (by rw [mkM_len]; omega)
  rw [mkM_len] at *
  have hs2 := HG2.out.size
  have B3 := hide ((grown_below HG2.out (fun k hk => by cases hk; exact Nat.le_refl B) (by omega) : Below B w w2).trans (b3.mono (by omega)))
  have C3 := hide (curAt_below HC2.out b3)
  have I3 := hide (inBytes_below HI2.out (b3.mono (by have := HI2.out.2.1; omega)))
  have O3 := hide (ownMat_mono o3 hs2 (Nat.le_refl _))
  have IM3 := hide (img_zero hR5 hC5)
  obtain ⟨hi, hhi⟩ : ∃ hi, hi = w3.heap.size := ⟨_, rfl⟩
  have hge : hi ≤ w3.heap.size := by omega
  rw [← hhi] at O3
  clear HG2 HC2 HI2 HC1 HI1 HG1 o3 b3 hhi
  go_wp2
  go_loopw [19] (fun i w' => ∃ (y : Nat) (f : Nat → Nat → Int), y ≤ R ∧ i = .int .i64 y ∧ Img R C f ∧ hi ≤ w'.heap.size ∧ OwnMat w' w.heap.size hi (.slice (some ⟨gv, 0, none⟩) R cv) (mkM R C f) ∧ CurAt w' B a n ∧ InBytes w' base a n ∧ Below B w w') (fun i _ => R - (intOf i).toNat)
  case atStart => exact ⟨0, zeroM, by omega, rfl, IM3.out, hge, O3.out, C3.out, I3.out, B3.out⟩
  case round =>
    clear B3 C3 I3 O3 IM3 hge
    obtain ⟨y, f, hy, rfl, him, hhi, hown, hcu, hib, hb⟩ := hrel
    have HM := hide him; have HO := hide hown; have HCu := hide hcu; have HIB := hide hib; have HB := hide hb
    clear him hown hcu hib hb
    by_cases hlt : y < R
    · have hyI : (y : Int) < R := by omega
      obtain ⟨g0, c0, hrow0, -⟩ := ownMat_cell HO.out y 0 hlt (by omega)
      go_wp2
      clear hrow0
      go_loopw [27] (fun i w' => ∃ (x : Nat) (f : Nat → Nat → Int), x ≤ C ∧ i = .int .i64 x ∧ Img R C f ∧ hi ≤ w'.heap.size ∧ OwnMat w' w.heap.size hi (.slice (some ⟨gv, 0, none⟩) R cv) (mkM R C f) ∧ CurAt w' B a n ∧ InBytes w' base a n ∧ Below B w w') (fun i _ => C - (intOf i).toNat)
      case atStart => exact ⟨0, f, by omega, rfl, HM.out, hhi, HO.out, HCu.out, HIB.out, HB.out⟩
      case round =>
        clear HM HO HCu HIB HB hhi f
        obtain ⟨x, f, hx, rfl, him, hhi, hown, hcu, hib, hb⟩ := hrel
        have HM := hide him; have HO := hide hown; have HCu := hide hcu; have HIB := hide hib; have HB := hide hb
        clear him hown hcu hib hb
        by_cases hlx : x < C
        · have hxI : (x : Int) < C := by omega
          obtain ⟨gr, cr, hrow, hcl, hfr, hlo, hgh, -⟩ := ownMat_cell HO.out y x hlt hlx
          have hgv : gv ≠ B := by
            obtain ⟨vs, hvs, -⟩ := HO.out
            have := (hvs.lt gv rfl).1; omega
          have HK : Hid (∀ w5, CurAt w5 B a n → wr.drew.grownBy w5 (some B) → w5.cell? ⟨gv, y, none⟩ = some (.slice (some ⟨gr, 0, none⟩) C cr) ∧ w5.cell? ⟨gr, x, none⟩ = some (.int .i64 (f y x)) ∧ w5.frozen? ⟨gr, x, none⟩ = false) := hide fun w5 hc hg => cells_kept hg hrow hcl hfr hgv (by omega)
          have hgg : gv ≠ gr := ownMat_apart HO.out y (by rw [mkM_len]; exact hlt) hrow
          have HCd : Hid (CurAt wr.drew B a n) := hide HCu.out
          have HId : Hid (InBytes wr.drew base a n) := hide HIB.out
          go_wp2
          go_region_held3 (fun w' => w'.cell? ⟨gv, y, none⟩ = some (.slice (some ⟨gr, 0, none⟩) C cr))
            (first | exact hrow | exact k1 | exact HKS.out)
            (first | (go_at_call 45; refine (l01Below_any B n a 2 _ base (by omega) (by omega) HCd.out HId.out hbase).mono ?_; rintro e w5 ⟨z, hz0, hz1, rfl, hc5, hg5⟩; obtain ⟨k1, k2, k3⟩ := HK.out w5 hc5 hg5; have HZ : Hid (z = 0 ∨ z = 1) := hide (by omega); have HKS : Hid ((w5.setCell ⟨gr, x, none⟩ (.int .i64 z)).cell? ⟨gv, y, none⟩ = some (.slice (some ⟨gr, 0, none⟩) C cr)) := hide (by rw [World.cell?_setCell_other _ _ _ _ (fun e => hgg (congrArg Addr.block e).symm)]; exact k1); replace hc5 := hide hc5; replace hg5 := hide hg5))
          go_wp2
          go_roundw
          case rel =>
            have hg := grown_undrew hg5.out
            have ho5 := ownMat_cur HO.out hg (by omega)
            obtain ⟨g7, c7, hrow7, -, -, -, -, hset⟩ := ownMat_cell ho5 y x hlt hlx
            rw [k1] at hrow7
            simp only [Option.some.injEq, Value.slice.injEq, Addr.mk.injEq] at hrow7
            obtain ⟨⟨rfl, -, -⟩, -, -⟩ := hrow7
            exact ⟨x + 1, _, by omega, by go_num, img_upd HM.out y x HZ.out, (by have := hg.size; simp [World.setCell]; omega), hset z, curAt_within hc5.out (heap_setCell_other _ _ _ _ (by show B ≠ gr; omega)), inBytes_below (inBytes_grown HIB.out hg hbase) ((Below.refl _ _).setCell (by show base ≤ gr; omega) _), (HB.out.trans (grown_below hg (fun k hk => by cases hk; exact Nat.le_refl _) (by have := curAt_lt HCu.out; omega))).setCell (by show B ≤ gr; omega) _⟩
          case measure => simp [intOf]; omega
        · obtain rfl : x = C := by omega
          go_wp2
          go_roundw
          case rel => exact ⟨y + 1, f, by omega, by go_num, HM.out, hhi, HO.out, HCu.out, HIB.out, HB.out⟩
          case measure => simp [intOf]; omega
    · obtain rfl : y = R := by omega
      go_wp2
      go_ret
      exact ⟨_, y, C, f, rfl, HM.out, ownMat_mono HO.out (Nat.le_refl _) hhi, HCu.out, HB.out⟩

/-- What the laws' makers answer: some image. -/
def MadeImg (w : World) (e : Ending) (w' : World) : Prop := ∃ (v : Value) (R C : Nat) (f : Nat → Nat → Int), e = .returned v ∧ Img R C f ∧ OwnMat w' w.heap.size w'.heap.size v (mkM R C f) ∧ Below w.heap.size w w'
set_option maxHeartbeats 400000 in
theorem makeImage_any (n c : Nat) (a : Option Addr) (m : Nat) (w : World) (base : Nat) (hin : InBytes w base a n) (hn : n ≤ 2000000) (hm : m ≤ 1000) :
    Calls Try.prog 14 #[.slice a n c, .int .i64 m, .int .i64 5] w (MadeImg w) := by
  have HI := hide hin
  clear hin
  go_enter Try.func14, Try.ntmps14
  go_wp2_with fail
  refine (l18New_any n c a m _ base HI.out hn hm).mono ?_
  rintro e w1 ⟨rfl, hc, hb, hlt⟩
  have HC := hide hc; have HB := hide hb; have hs1 := hb.size
  have HI1 := hide (inBytes_below HI.out (hb.mono HI.out.2.1))
  clear hc hb
  go_wp2_with fail
  refine (l02Draw_any _ n a 5 _ base (by omega) (by omega) HC.out HI1.out HI.out.2.1).mono ?_
  rintro e w2 ⟨v, R, C, f, rfl, him, ho, -, hb⟩
  have HIM := hide him; have HO := hide (ownMat_mono ho hs1 (Nat.le_refl _)); have HB2 := hide (HB.out.trans hb)
  clear him ho hb
  go_wp2
  go_ret
  exact ⟨v, R, C, f, rfl, HIM.out, HO.out, HB2.out⟩

/-- What MakeSized answers: an image of the size asked. -/
def SizedImg (R C : Nat) (w : World) (e : Ending) (w' : World) : Prop := ∃ (v : Value) (f : Nat → Nat → Int), e = .returned v ∧ Img R C f ∧ OwnMat w' w.heap.size w'.heap.size v (mkM R C f) ∧ Below w.heap.size w w'
set_option maxRecDepth 100000 in
set_option maxHeartbeats 1000000 in
theorem makeSized_any (n c : Nat) (a : Option Addr) (m R C : Nat) (w : World) (base : Nat) (hin : InBytes w base a n) (hn : n ≤ 2000000) (hm : m ≤ 1000) (hR5 : 1 ≤ R ∧ R ≤ 5) (hC5 : 1 ≤ C ∧ C ≤ 5) :
    Calls Try.prog 15 #[.slice a n c, .int .i64 m, .int .i64 R, .int .i64 C] w (SizedImg R C w) := by
  have HI := hide hin
  have hbase := hin.2.1
  clear hin
  go_enter Try.func15, Try.ntmps15
  go_wp2_with fail
  refine (l18New_any n c a m _ base HI.out hn hm).mono ?_
  rintro e w0 ⟨rfl, hc, hb, hBw⟩
  have HC0 := hide hc; have HB0 := hide hb; have HI0 := hide (inBytes_below HI.out (hb.mono HI.out.2.1))
  clear hc hb HI
  obtain ⟨B, hB⟩ : ∃ B, w.heap.size = B := ⟨_, rfl⟩
  rw [hB] at HC0 HB0 hBw hbase ⊢
  have HEB := hide hB
  clear hB
  go_wp2_with fail
  rw [show max (1 : Int) (min (R : Int) 5) = R by omega, show max (1 : Int) (min (C : Int) 5) = C by omega]
  refine (l02Empty_any R C _ hR5.2 hC5.2).mono ?_
  rintro e w3 ⟨v3, rfl, o3, b3⟩
  obtain ⟨gv, cv, rfl⟩ := ownMat_some o3 (by rw [mkM_len]; omega)
  rw [mkM_len] at *
  have B3 := hide (HB0.out.trans (b3.mono (by omega)))
  have C3 := hide (curAt_below HC0.out b3)
  have I3 := hide (inBytes_below HI0.out (b3.mono (by omega)))
  have O3 := hide o3
  have IM3 := hide (img_zero hR5 hC5)
  obtain ⟨hi, hhi⟩ : ∃ hi, hi = w3.heap.size := ⟨_, rfl⟩
  have hge : hi ≤ w3.heap.size := by omega
  rw [← hhi] at O3
  clear HC0 HI0 o3 b3 hhi
  go_wp2
  go_loopw [25] (fun i w' => ∃ (y : Nat) (f : Nat → Nat → Int), y ≤ R ∧ i = .int .i64 y ∧ Img R C f ∧ hi ≤ w'.heap.size ∧ OwnMat w' w0.heap.size hi (.slice (some ⟨gv, 0, none⟩) R cv) (mkM R C f) ∧ CurAt w' B a n ∧ InBytes w' base a n ∧ Below B w w') (fun i _ => R - (intOf i).toNat)
  case atStart => exact ⟨0, zeroM, by omega, rfl, IM3.out, hge, O3.out, C3.out, I3.out, B3.out⟩
  case round =>
    clear B3 C3 I3 O3 IM3 hge
    obtain ⟨y, f, hy, rfl, him, hhi, hown, hcu, hib, hb⟩ := hrel
    have HM := hide him; have HO := hide hown; have HCu := hide hcu; have HIB := hide hib; have HB := hide hb
    clear him hown hcu hib hb
    by_cases hlt : y < R
    · have hyI : (y : Int) < R := by omega
      obtain ⟨g0, c0, hrow0, -⟩ := ownMat_cell HO.out y 0 hlt (by omega)
      go_wp2
      clear hrow0
      go_loopw [33] (fun i w' => ∃ (x : Nat) (f : Nat → Nat → Int), x ≤ C ∧ i = .int .i64 x ∧ Img R C f ∧ hi ≤ w'.heap.size ∧ OwnMat w' w0.heap.size hi (.slice (some ⟨gv, 0, none⟩) R cv) (mkM R C f) ∧ CurAt w' B a n ∧ InBytes w' base a n ∧ Below B w w') (fun i _ => C - (intOf i).toNat)
      case atStart => exact ⟨0, f, by omega, rfl, HM.out, hhi, HO.out, HCu.out, HIB.out, HB.out⟩
      case round =>
        clear HM HO HCu HIB HB hhi f
        obtain ⟨x, f, hx, rfl, him, hhi, hown, hcu, hib, hb⟩ := hrel
        have HM := hide him; have HO := hide hown; have HCu := hide hcu; have HIB := hide hib; have HB := hide hb
        clear him hown hcu hib hb
        by_cases hlx : x < C
        · have hxI : (x : Int) < C := by omega
          obtain ⟨gr, cr, hrow, hcl, hfr, hlo, hgh, -⟩ := ownMat_cell HO.out y x hlt hlx
          have hgv : gv ≠ B := by
            obtain ⟨vs, hvs, -⟩ := HO.out
            have := (hvs.lt gv rfl).1; omega
          have HK : Hid (∀ w5, CurAt w5 B a n → wr.drew.grownBy w5 (some B) → w5.cell? ⟨gv, y, none⟩ = some (.slice (some ⟨gr, 0, none⟩) C cr) ∧ w5.cell? ⟨gr, x, none⟩ = some (.int .i64 (f y x)) ∧ w5.frozen? ⟨gr, x, none⟩ = false) := hide fun w5 hc hg => cells_kept hg hrow hcl hfr hgv (by omega)
          have hgg : gv ≠ gr := ownMat_apart HO.out y (by rw [mkM_len]; exact hlt) hrow
          have HCd : Hid (CurAt wr.drew B a n) := hide HCu.out
          have HId : Hid (InBytes wr.drew base a n) := hide HIB.out
          go_wp2
          go_region_held3 (fun w' => w'.cell? ⟨gv, y, none⟩ = some (.slice (some ⟨gr, 0, none⟩) C cr))
            (first | exact hrow | exact k1 | exact HKS.out)
            (first | (go_at_call 45; refine (l01Below_any B n a 2 _ base (by omega) (by omega) HCd.out HId.out hbase).mono ?_; rintro e w5 ⟨z, hz0, hz1, rfl, hc5, hg5⟩; obtain ⟨k1, k2, k3⟩ := HK.out w5 hc5 hg5; have HZ : Hid (z = 0 ∨ z = 1) := hide (by omega); have HKS : Hid ((w5.setCell ⟨gr, x, none⟩ (.int .i64 z)).cell? ⟨gv, y, none⟩ = some (.slice (some ⟨gr, 0, none⟩) C cr)) := hide (by rw [World.cell?_setCell_other _ _ _ _ (fun e => hgg (congrArg Addr.block e).symm)]; exact k1); replace hc5 := hide hc5; replace hg5 := hide hg5))
          go_wp2
          go_roundw
          case rel =>
            have hg := grown_undrew hg5.out
            have ho5 := ownMat_cur HO.out hg (by omega)
            obtain ⟨g7, c7, hrow7, -, -, -, -, hset⟩ := ownMat_cell ho5 y x hlt hlx
            rw [k1] at hrow7
            simp only [Option.some.injEq, Value.slice.injEq, Addr.mk.injEq] at hrow7
            obtain ⟨⟨rfl, -, -⟩, -, -⟩ := hrow7
            exact ⟨x + 1, _, by omega, by go_num, img_upd HM.out y x HZ.out, (by have := hg.size; simp [World.setCell]; omega), hset z, curAt_within hc5.out (heap_setCell_other _ _ _ _ (by show B ≠ gr; omega)), inBytes_below (inBytes_grown HIB.out hg hbase) ((Below.refl _ _).setCell (by show base ≤ gr; omega) _), (HB.out.trans (grown_below hg (fun k hk => by cases hk; exact Nat.le_refl _) (by have := curAt_lt HCu.out; omega))).setCell (by show B ≤ gr; omega) _⟩
          case measure => simp [intOf]; omega
        · obtain rfl : x = C := by omega
          go_wp2
          go_roundw
          case rel => exact ⟨y + 1, f, by omega, by go_num, HM.out, hhi, HO.out, HCu.out, HIB.out, HB.out⟩
          case measure => simp [intOf]; omega
    · obtain rfl : y = R := by omega
      go_wp2
      go_ret
      exact ⟨_, f, rfl, HM.out, ownMat_mono HO.out (by have := HB0.out.size; exact this) hhi, by rw [HEB.out]; exact HB.out⟩

end Go.Proofs.Ytcpcplggoogpeaa
