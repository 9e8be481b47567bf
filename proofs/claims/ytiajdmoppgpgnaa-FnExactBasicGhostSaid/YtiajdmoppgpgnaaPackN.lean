/-
  Texts of this claim, one behind the other: BgI, BgS, LawsBg.
-/
import Derived.Test.YtiajdmoppgpgnaaPackL
import Derived.Test.YtiajdmoppgpgnaaPackD
import Derived.Test.YtiajdmoppgpgnaaPackM
import Derived.Test.YtiajdmoppgpgnaaPackB
/-
  BasicGhost of the program.
-/
namespace Go.Proofs.Ytiajdmoppgpgnaa
open Go.RowKit Go.Katz
set_option maxRecDepth 100000

theorem mat_one : mkM 1 1 (fun _ _ => (1 : Int)) = [[1]] := rfl
/-- The literal of one row with one number. -/
theorem own_one (w : World) : OwnMat ((w.alloc (.cells #[.int .i64 1] 3)).alloc (.cells #[.slice (some ⟨w.heap.size, 0, none⟩) 1 1] 33)) w.heap.size (w.heap.size + 2) (.slice (some ⟨w.heap.size + 1, 0, none⟩) 1 1) (mkM 1 1 fun _ _ => 1) := by
  rw [mat_one]
  have h1 : ((w.alloc (.cells #[.int .i64 1] 3)).alloc (.cells #[.slice (some ⟨w.heap.size, 0, none⟩) 1 1] 33)).heap[w.heap.size + 1]? = some (.cells #[.slice (some ⟨w.heap.size, 0, none⟩) 1 1] 33 (0, 0)) := by
    have := heap_alloc_new (w.alloc (.cells #[.int .i64 1] 3)) (.cells #[.slice (some ⟨w.heap.size, 0, none⟩) 1 1] 33)
    simpa using this
  have h0 : ((w.alloc (.cells #[.int .i64 1] 3)).alloc (.cells #[.slice (some ⟨w.heap.size, 0, none⟩) 1 1] 33)).heap[w.heap.size]? = some (.cells #[.int .i64 1] 3 (0, 0)) := by
    have hb : Below (w.alloc (.cells #[.int .i64 1] 3)).heap.size (w.alloc (.cells #[.int .i64 1] 3)) ((w.alloc (.cells #[.int .i64 1] 3)).alloc (.cells #[.slice (some ⟨w.heap.size, 0, none⟩) 1 1] 33)) := (Below.refl _ _).alloc (Nat.le_refl _) _
    rw [hb.block _ (by simp)]
    exact heap_alloc_new w _
  refine ⟨[.slice (some ⟨w.heap.size, 0, none⟩) 1 1], ⟨rfl, .inr ⟨_, 1, _, rfl, by omega, h1, Nat.le_refl _, by decide, rfl, rfl⟩⟩, fun k e => by simp [Value.ownBlock] at e; omega, fun i hi => ?_, fun i j hij hj => by simp at hj; omega⟩
  have : i = 0 := by simpa using hi
  subst this
  exact ⟨⟨rfl, .inr ⟨_, 1, _, rfl, Nat.le_refl _, h0, Nat.le_refl _, by decide, rfl, rfl⟩⟩, fun k e => by simp [Value.ownBlock] at e; omega⟩
set_option maxHeartbeats 4000000 in
theorem implBasicGhost_any (v : Value) (l : List (Int × Int)) (w : World) (hin : DrsC w v l) :
    Calls Try.prog 32 #[v] w (MatRes2 (bgM l) (bgB l) w) := by
  have HIN := hide hin
  obtain ⟨a, c, rfl, hlc, hm, hp⟩ := hin
  have HP := hide hp
  have HOK := hide fun w h => implDirsOk_any (.slice a l.length c) l w h
  cases hd : dirsB l with
  | false =>
    have HE : Hid (bgM l = [] ∧ bgB l = false) := hide (by rw [bgM, bgB, hd]; exact ⟨rfl, rfl⟩)
    rw [HE.out.1, HE.out.2]
    rw [hd] at HOK
    obtain ⟨n, hn⟩ : ∃ n, n = l.length := ⟨_, rfl⟩
    rw [← hn] at HIN HOK ⊢
    clear hp hd hlc hm hn
    go_enter Try.func32, Try.ntmps32
    go_wp2_with ((with_reducible refine (HOK.out _ HIN.out).mono ?_); rintro e w1 ⟨rfl, hb⟩; have HB := hide hb; clear hb)
    go_ret2
    exact ⟨_, rfl, ownMat_nil _ _ _, HB.out⟩
  | true =>
    rw [hd] at HOK
    have HN := hide (dirsB_near hd)
    have hl4 := (dirsB_len hd).2
    have HG := hide fun w h => ghostSize_any (.slice a l.length c) l w h (dirsB_near hd) hl4
    have hur := up_range l (dirsB_near hd)
    obtain ⟨U, hU⟩ : ∃ U, U = 1 + upI l := ⟨_, rfl⟩
    obtain ⟨V, hV⟩ : ∃ V, V = 1 + overI l := ⟨_, rfl⟩
    rw [← hU, ← hV] at HG
    have HBE : Hid (bgB l = sizeOk U V) := hide (by rw [bgB, hd, hU, hV]; rfl)
    cases hs : sizeOk U V with
    | false =>
      have HS := hide hs
      have HE : Hid (bgM l = [] ∧ bgB l = false) := hide (by rw [bgM, HBE.out, hs]; exact ⟨rfl, rfl⟩)
      rw [HE.out.1, HE.out.2]
      obtain ⟨n, hn⟩ : ∃ n, n = l.length := ⟨_, rfl⟩
      rw [← hn] at HIN HOK HG ⊢
      clear hp hd hlc hm hn hs hU hV hur
      go_enter Try.func32, Try.ntmps32
      go_wp2_with (first | ((with_reducible refine (HOK.out _ HIN.out).mono ?_); rintro e w1 ⟨rfl, hb⟩; have HB := hide hb; clear hb) | ((with_reducible refine (HG.out _ (drsC_in (drsC_below HIN.out HB.out))).mono ?_); rintro e w2 ⟨rfl, hb⟩; have HB2 := hide (HB.out.trans (hb.mono HB.out.size)); clear hb) | ((with_reducible refine (sizeok_any U V _).mono ?_); rw [HS.out]; rintro e w3 ⟨rfl, hb⟩; have HB3 := hide (HB2.out.trans (hb.mono HB2.out.size)); clear hb))
      go_ret2
      exact ⟨_, rfl, ownMat_nil _ _ _, HB3.out⟩
    | true =>
      have HS := hide hs
      have HE : Hid (bgM l = mkM (ghG l).R (ghG l).C (ghG l).f ∧ bgB l = true) := hide (by rw [bgM, HBE.out, hs]; exact ⟨rfl, rfl⟩)
      rw [HE.out.1, HE.out.2]
      obtain ⟨n, hn⟩ : ∃ n, n = l.length := ⟨_, rfl⟩
      have HNN := hide hn
      rw [← hn] at HIN HOK HG hl4 ⊢
      have HST : Hid (∀ k, (h : k < l.length) → ghG (l.take (k + 1)) = (ghG (l.take k)).minus l[k]) := hide fun k h => by
        rw [List.take_succ_eq_append_getElem h, ghG_snoc]
      have HSZ : Hid (∀ k, k ≤ n → 1 ≤ (ghG (l.take k)).R ∧ (ghG (l.take k)).R ≤ 20 ∧ 1 ≤ (ghG (l.take k)).C ∧ (ghG (l.take k)).C ≤ 20 ∧ GOK (ghG (l.take k)) 16) := hide fun k hk => by
        have hnr : ∀ d ∈ l.take k, Near d.1 d.2 := fun d hd => HN.out d (List.mem_of_mem_take hd)
        have h1 := up_range (l.take k) hnr
        have h2 := ghG_size (l.take k) fun d hd => (hnr d hd).x1
        have hlen : (l.take k).length = k := by rw [List.length_take]; omega
        rw [hlen] at h1
        refine ⟨by omega, by omega, by omega, by omega, fun y x => ?_⟩
        have h3 := ghG_ok k (l.take k) hlen (fun d hd => (hnr d hd).x1) y x
        have : 2 ^ k ≤ 2 ^ 4 := Nat.pow_le_pow_right (by decide) (by omega)
        omega
      have HA : Hid (∀ (w : World) (o : Obj), Below w.heap.size w (w.alloc o)) := hide fun w o => (Below.refl _ _).alloc (Nat.le_refl _) o
      have H0 : Hid (ghG (l.take 0) = ⟨1, 1, fun _ _ => 1⟩) := hide rfl
      clear hp hd hlc hm hn hs hU hV hur HE
      go_enter Try.func32, Try.ntmps32
      go_wp2_with (first | ((with_reducible refine (HOK.out _ HIN.out).mono ?_); rintro e w1 ⟨rfl, hb⟩; have HB := hide hb; clear hb) | ((with_reducible refine (HG.out _ (drsC_in (drsC_below HIN.out HB.out))).mono ?_); rintro e w2 ⟨rfl, hb⟩; have HB2 := hide (HB.out.trans (hb.mono HB.out.size)); clear hb) | ((with_reducible refine (sizeok_any U V _).mono ?_); rw [HS.out]; rintro e w3 ⟨rfl, hb⟩; have HB3 := hide (HB2.out.trans (hb.mono HB2.out.size)); have hs3 := HB3.out.size; clear hb))
      obtain ⟨b, hb⟩ : ∃ b, b = w3.heap.size := ⟨_, rfl⟩
      obtain ⟨w4, hw4⟩ : ∃ w4, w4 = (w3.alloc (.cells #[.int .i64 1] 3)).alloc (.cells #[.slice (some ⟨w3.heap.size, 0, none⟩) 1 1] 33) := ⟨_, rfl⟩
      have z4 : w4.heap.size = b + 2 := by rw [hw4, hb]; simp
      have hb4 : Below w3.heap.size w3 w4 := by rw [hw4]; exact (HA.out _ _).trans ((HA.out _ _).mono (by simp))
      have ho4 : OwnMat w4 b (b + 2) (.slice (some ⟨b + 1, 0, none⟩) 1 1) (mkM 1 1 fun _ _ => 1) := by rw [hw4, hb]; exact own_one w3
      obtain ⟨w5, hw5⟩ : ∃ w5, w5 = w4.alloc (.cells #[.int .i64 1, .int .i64 1, .slice (some ⟨w3.heap.size + 1, 0, none⟩) 1 1] 75) := ⟨_, rfl⟩
      have hb5 : Below w4.heap.size w4 w5 := by rw [hw5]; exact HA.out _ _
      have z5 : w5.heap.size = b + 3 := by rw [hw5]; simp [z4]
      have hg5 : GridAt w5 (b + 2) 1 1 (.slice (some ⟨b + 1, 0, none⟩) 1 1) := by
        have := heap_alloc_new w4 (.cells #[.int .i64 1, .int .i64 1, .slice (some ⟨w3.heap.size + 1, 0, none⟩) 1 1] 75)
        rw [← hw5, z4, ← hb] at this
        exact this
      have HO5 := hide (ownMat_below ho4 hb5)
      have HG5 := hide hg5
      have HB5 := hide (HB3.out.trans ((hb4.trans (hb5.mono hb4.size)).mono HB3.out.size))
      have HZ5 := hide z5
      have hbw : w.heap.size ≤ b := by rw [hb]; exact hs3
      rw [← hw4, ← hw5, ← hb]
      clear hw4 hw5 hb hs3 z4 hb4 ho4 hb5 hg5 z5
      have e2 : b + 1 + 1 = b + 2 := rfl
      rw [e2]
      go_loopw [22] (fun i w' => ∃ (k : Nat) (u : Value) (lo hi : Nat), k ≤ n ∧ i = .int .i64 k ∧ GridAt w' (b + 2) (ghG (l.take k)).R (ghG (l.take k)).C u ∧ OwnMat w' lo hi u (mkM (ghG (l.take k)).R (ghG (l.take k)).C (ghG (l.take k)).f) ∧ w.heap.size ≤ lo ∧ hi ≤ w'.heap.size ∧ (b + 2 < lo ∨ hi ≤ b + 2) ∧ Below w.heap.size w w') (fun i _ => n - (intOf i).toNat)
      case atStart => exact ⟨0, _, b, b + 2, Nat.zero_le _, rfl, by rw [H0.out]; exact HG5.out, by rw [H0.out]; exact HO5.out, hbw, by have := HZ5.out; omega, .inr (Nat.le_refl _), HB5.out⟩
      case round =>
        clear HO5 HG5 HB5
        obtain ⟨k, u, lo, hi, hk, rfl, hg4, ho, hlo, hhi, hap, hb⟩ := hrel
        have HG4 := hide hg4; have HO := hide ho; have HB4 := hide hb
        obtain ⟨ua, un, uc, rfl⟩ := ownMat_slice ho
        have hgl := gridAt_lt hg4
        clear hg4 ho hb
        obtain ⟨s1, s2, s3, s4, s5⟩ := HSZ.out k hk
        by_cases hlt : k < n
        · have hltI : (k : Int) < n := by omega
          have hkl : k < l.length := by rw [← HNN.out]; exact hlt
          obtain ⟨g, o, rfl, hgl2, hcl⟩ := HP.out.resolve_left (by rw [← HNN.out]; omega)
          have hc := drC_below (hcl k hkl) HB4.out hgl2
          have HNX := hide (HST.out k hkl)
          have HNR := hide (HN.out _ (List.getElem_mem hkl))
          obtain ⟨d, hd⟩ : ∃ d, d = l[k] := ⟨_, rfl⟩
          rw [← hd] at hc HNX HNR
          obtain ⟨dx, dy⟩ := d
          obtain ⟨c0, c1⟩ := hc
          simp only at c0 c1
          obtain ⟨G, hG⟩ : ∃ G, G = ghG (l.take k) := ⟨_, rfl⟩
          rw [← hG] at HG4 HO HNX s1 s2 s3 s4 s5
          have HLS := hide (lsF_minus s5 (by decide) (dx := dx) (dy := dy) HNR.out.x1)
          have HS5 := hide s5
          have HMR : Hid ((G.minus (dx, dy)).R = G.R + (tallD (dx, dy)).toNat ∧ (G.minus (dx, dy)).C = G.C + dx.toNat) := hide ⟨rfl, rfl⟩
          obtain ⟨R, hR⟩ : ∃ R, R = G.R := ⟨_, rfl⟩
          obtain ⟨C, hC⟩ : ∃ C, C = G.C := ⟨_, rfl⟩
          rw [← hR] at HG4 HO s1 s2 HLS HMR
          rw [← hC] at HG4 HO s3 s4 HLS HMR
          have hbx := HA.out wr (.cells #[.int .i64 dx, .int .i64 dy] 36)
          have HD1 : Hid (DirAt (wr.alloc (.cells #[.int .i64 dx, .int .i64 dy] 36)) wr.heap.size dx dy) := hide (heap_alloc_new wr _)
          have HG6 := hide (gridAt_below HG4.out hbx)
          have HM6 := hide (inMat_below (inMat_own HO.out) hbx)
          have HB6 := hide (HB4.out.trans (hbx.mono HB4.out.size))
          have hs6 := hbx.size
          clear hcl hd hG hR hC hbx s5
          go_wp2_with (first | (with_reducible refine wpList_loadGr HG6.out rfl _ rfl rfl ?_) | (with_reducible refine wpList_loadDir HD1.out rfl _ rfl rfl ?_) | ((with_reducible refine (lessShifted_any _ R C G.f dx dy _ HM6.out HNR.out ⟨s1, s2⟩ ⟨s3, s4⟩).mono ?_); rintro e w7 ⟨x, rfl, ho, hb⟩; obtain ⟨xa, xn, xc, rfl⟩ := ownMat_slice ho; have HO7 := hide ho; have HG7 := hide (gridAt_below HG6.out hb); have HB7 := hide (HB6.out.trans (hb.mono HB6.out.size)); have hs7 := hb.size; clear hb ho) | ((with_reducible refine wpList_storeGr HG7.out _ _ (.slice xa xn xc) rfl rfl _ _ rfl rfl rfl ?_); intro w8 hs hg8 hz; have HG8 := hide hs; have HGR8 := hide hg8; have hz8 := hz; have HB8 := hide (HB7.out.trans (grown_below hg8 (fun q hq => by cases hq; omega) HB7.out.size)); clear hs hg8 hz))
          go_roundw
          case rel =>
            have e : mkM (R + (tallD (dx, dy)).toNat) (C + dx.toNat) (lsF R C G.f dx dy) = mkM (G.minus (dx, dy)).R (G.minus (dx, dy)).C (G.minus (dx, dy)).f := by
              rw [HMR.out.1, HMR.out.2]
              exact mkM_congr fun y x _ _ => HLS.out y x
            have h1 := HO7.out
            rw [e] at h1
            exact ⟨k + 1, _, wr.heap.size + 1, w7.heap.size, by omega, by go_num, by rw [HNX.out, HMR.out.1, HMR.out.2, show ((R + (tallD (dx, dy)).toNat : Nat) : Int) = R + max (tallD (dx, dy)) 0 by omega, show ((C + dx.toNat : Nat) : Int) = C + max dx 0 by omega]; exact HG8.out, by rw [HNX.out]; exact ownMat_within (lo' := b + 2) (hi' := b + 3) (ownMat_mono h1 (by first | omega | simp) (Nat.le_refl _)) (within_grown HGR8.out (fun q hq => by cases hq; omega)) (.inr (by omega)), by omega, by omega, .inl (by omega), HB8.out⟩
          case measure => simp [intOf]; omega
        · obtain rfl : k = n := by omega
          have HE : Hid (l.take k = l) := hide (List.take_of_length_le (by rw [HNN.out]; exact Nat.le_refl _))
          rw [HE.out] at HG4 HO
          obtain ⟨q0, q1, q2⟩ := gridAt_cells HG4.out
          go_wp2
          go_ret2
          exact ⟨_, rfl, ownMat_mono HO.out hlo hhi, HB4.out⟩
end Go.Proofs.Ytiajdmoppgpgnaa
/-
  BasicGhost of the model.
-/
namespace Go.Proofs.Ytiajdmoppgpgnaa
open Go.RowKit Go.Katz
set_option maxRecDepth 100000

theorem up_take : ∀ (l : List (Int × Int)) (k : Nat), (∀ d ∈ l, Near d.1 d.2) → upI (l.take k) ≤ upI l ∧ overI (l.take k) ≤ overI l
  | [], k, _ => by simp
  | d :: l, 0, h => by
    have := up_range (d :: l) h
    simp only [List.take_zero]
    have e1 : upI [] = 0 := rfl
    have e2 : overI [] = 0 := rfl
    omega
  | d :: l, k + 1, h => by
    have := up_take l k fun e he => h e (List.mem_cons_of_mem _ he)
    have e1 : ∀ l : List (Int × Int), upI (d :: l) = tallD d + upI l := fun l => by simp [upI, tallD]
    have e2 : ∀ l : List (Int × Int), overI (d :: l) = d.1 + overI l := fun l => by simp [overI]
    rw [List.take_succ_cons, e1, e1, e2, e2]
    omega
set_option maxHeartbeats 4000000 in
theorem specBasicGhost_any (v : Value) (l : List (Int × Int)) (w : World) (hin : DrsC w v l) :
    Calls Try.prog 31 #[v] w (MatRes2 (bgM l) (bgB l) w) := by
  have HIN := hide hin
  obtain ⟨a, c, rfl, hlc, hm, hp⟩ := hin
  have HP := hide hp
  have HG := hide fun w h => specGhostSize_any (.slice a l.length c) l w h
  have hbb : bgB l = sizeOk (gzR l) (gzC l) := by
    unfold bgB gzR gzC
    cases h : dirsB l with
    | true => simp
    | false => rfl
  obtain ⟨U, hU⟩ : ∃ U, U = gzR l := ⟨_, rfl⟩
  obtain ⟨V, hV⟩ : ∃ V, V = gzC l := ⟨_, rfl⟩
  rw [← hU, ← hV] at HG
  cases hs : sizeOk U V with
  | false =>
    have HS := hide hs
    have HE : Hid (bgM l = [] ∧ bgB l = false) := hide (by rw [bgM, hbb, ← hU, ← hV, hs]; exact ⟨rfl, rfl⟩)
    rw [HE.out.1, HE.out.2]
    obtain ⟨n, hn⟩ : ∃ n, n = l.length := ⟨_, rfl⟩
    rw [← hn] at HIN HG ⊢
    clear hp hlc hm hn hs hU hV hbb
    go_enter Try.func31, Try.ntmps31
    go_wp2_with (first | ((with_reducible refine (HG.out _ HIN.out).mono ?_); rintro e w1 ⟨rfl, hb⟩; have HB := hide hb; clear hb) | ((with_reducible refine (l03Size_any U V _).mono ?_); rw [HS.out]; rintro e w3 ⟨rfl, rfl⟩))
    go_ret2
    exact ⟨_, rfl, ownMat_nil _ _ _, HB.out⟩
  | true =>
    have HS := hide hs
    have HE : Hid (bgM l = mkM (ghG l).R (ghG l).C (ghG l).f ∧ bgB l = true) := hide (by
      have : bgB l = true := by rw [hbb, ← hU, ← hV, hs]
      exact ⟨if_pos this, this⟩)
    rw [HE.out.1, HE.out.2]
    have hd : dirsB l = true := by
      cases h : dirsB l with
      | true => rfl
      | false =>
        exfalso
        have := sizeOk_yes hs
        rw [hU, gzR, h] at this
        simp at this
    have hsz := sizeOk_yes hs
    rw [hU, hV, gzR, gzC, hd] at hsz
    simp only [if_true] at hsz
    have HN := hide (dirsB_near hd)
    have hl4 := (dirsB_len hd).2
    obtain ⟨n, hn⟩ : ∃ n, n = l.length := ⟨_, rfl⟩
    have HNN := hide hn
    have HST : Hid (∀ k, (h : k < l.length) → ghG (l.take (k + 1)) = (ghG (l.take k)).minus l[k]) := hide fun k h => by
      rw [List.take_succ_eq_append_getElem h, ghG_snoc]
    have HSZ : Hid (∀ k, k ≤ n → 1 ≤ (ghG (l.take k)).R ∧ (ghG (l.take k)).R ≤ 5 ∧ 1 ≤ (ghG (l.take k)).C ∧ (ghG (l.take k)).C ≤ 5 ∧ GOK (ghG (l.take k)) 16) := hide fun k hk => by
      have hnr : ∀ d ∈ l.take k, Near d.1 d.2 := fun d hd => HN.out d (List.mem_of_mem_take hd)
      have h0 := up_range (l.take k) hnr
      have h1 := up_take l k HN.out
      have h2 := ghG_size (l.take k) fun d hd => (hnr d hd).x1
      have hlen : (l.take k).length = k := by rw [List.length_take]; omega
      refine ⟨by omega, by omega, by omega, by omega, fun y x => ?_⟩
      have h3 := ghG_ok k (l.take k) hlen (fun d hd => (hnr d hd).x1) y x
      have : 2 ^ k ≤ 2 ^ 4 := Nat.pow_le_pow_right (by decide) (by omega)
      omega
    have H0 : Hid (ghG (l.take 0) = ⟨1, 1, fun _ _ => 1⟩) := hide rfl
    have HA : Hid (∀ (w : World) (o : Obj), Below w.heap.size w (w.alloc o)) := hide fun w o => (Below.refl _ _).alloc (Nat.le_refl _) o
    rw [← hn] at HIN HG hl4 ⊢
    clear hp hd hlc hm hn hs hU hV hbb hsz HE
    go_enter Try.func31, Try.ntmps31
    go_wp2_with (first | ((with_reducible refine (HG.out _ HIN.out).mono ?_); rintro e w1 ⟨rfl, hb⟩; have HB := hide hb; clear hb) | ((with_reducible refine (l03Size_any U V _).mono ?_); rw [HS.out]; rintro e w3 ⟨rfl, rfl⟩))
    obtain ⟨b, hb⟩ : ∃ b, b = w1.heap.size := ⟨_, rfl⟩
    obtain ⟨w4, hw4⟩ : ∃ w4, w4 = (w1.alloc (.cells #[.int .i64 1] 3)).alloc (.cells #[.slice (some ⟨w1.heap.size, 0, none⟩) 1 1] 33) := ⟨_, rfl⟩
    have z4 : w4.heap.size = b + 2 := by rw [hw4, hb]; simp
    have hb4 : Below w1.heap.size w1 w4 := by rw [hw4]; exact (HA.out _ _).trans ((HA.out _ _).mono (by simp))
    have ho4 : OwnMat w4 b (b + 2) (.slice (some ⟨b + 1, 0, none⟩) 1 1) (mkM 1 1 fun _ _ => 1) := by rw [hw4, hb]; exact own_one w1
    have HO4 := hide ho4
    have HB4 := hide (HB.out.trans (hb4.mono HB.out.size))
    have HZ4 := hide z4
    have hbw : w.heap.size ≤ b := by rw [hb]; exact HB.out.size
    rw [← hw4, ← hb]
    clear hw4 hb z4 hb4 ho4
    go_loopw [6, 22] (fun u i w' => ∃ (k : Nat) (lo hi : Nat), k ≤ n ∧ i = .int .i64 k ∧ OwnMat w' lo hi u (mkM (ghG (l.take k)).R (ghG (l.take k)).C (ghG (l.take k)).f) ∧ w.heap.size ≤ lo ∧ hi ≤ w'.heap.size ∧ Below w.heap.size w w') (fun _ i _ => n - (intOf i).toNat)
    case atStart => exact ⟨0, b, b + 2, Nat.zero_le _, rfl, by rw [H0.out]; exact HO4.out, hbw, by have := HZ4.out; omega, HB4.out⟩
    case round =>
      clear HO4 HB4
      obtain ⟨k, lo, hi, hk, rfl, ho, hlo, hhi, hb⟩ := hrel
      have HO := hide ho; have HB5 := hide hb
      obtain ⟨ua, un, uc, rfl⟩ := ownMat_slice ho
      clear ho hb
      obtain ⟨s1, s2, s3, s4, s5⟩ := HSZ.out k hk
      by_cases hlt : k < n
      · have hltI : (k : Int) < n := by omega
        have hkl : k < l.length := by rw [← HNN.out]; exact hlt
        obtain ⟨g, o, rfl, hgl2, hcl⟩ := HP.out.resolve_left (by rw [← HNN.out]; omega)
        have hc := drC_below (hcl k hkl) HB5.out hgl2
        have HNX := hide (HST.out k hkl)
        have HNR := hide (HN.out _ (List.getElem_mem hkl))
        obtain ⟨t1, t2, t3, t4, -⟩ := HSZ.out (k + 1) (by omega)
        obtain ⟨d, hd⟩ : ∃ d, d = l[k] := ⟨_, rfl⟩
        rw [← hd] at hc HNX HNR
        obtain ⟨dx, dy⟩ := d
        obtain ⟨c0, c1⟩ := hc
        simp only at c0 c1
        obtain ⟨G, hG⟩ : ∃ G, G = ghG (l.take k) := ⟨_, rfl⟩
        rw [← hG] at HO HNX s1 s2 s3 s4 s5
        have HMR : Hid ((G.minus (dx, dy)).R = G.R + (tallD (dx, dy)).toNat ∧ (G.minus (dx, dy)).C = G.C + dx.toNat) := hide ⟨rfl, rfl⟩
        rw [HNX.out, HMR.out.1] at t2
        rw [HNX.out, HMR.out.2] at t4
        have hG16 : ∀ y x, y < G.R → x < G.C → (G.f y x).natAbs ≤ 16 := fun y x hy hx => gok_at s5 hy hx
        have HLS := hide (mnF_minus G (dx := dx) (dy := dy) HNR.out.x1)
        have HBX : Hid (∀ w : World, Below w.heap.size w (w.alloc (.cells #[.int .i64 dx, .int .i64 dy] 36))) := hide fun w => HA.out w _
        have HD1 : Hid (DirAt (wr.alloc (.cells #[.int .i64 dx, .int .i64 dy] 36)) wr.heap.size dx dy) := hide (heap_alloc_new wr _)
        have HM6 := hide (inMat_below (inMat_own HO.out) (HBX.out wr))
        have HB6 := hide (HB5.out.trans ((HBX.out wr).mono HB5.out.size))
        have hs6 := (HBX.out wr).size
        have HMI := hide (fun w h => l11Minus_any (.slice ua un uc) G.R G.C G.f dx dy w h HNR.out s1 s3 t2 t4 hG16)
        obtain ⟨M, hM⟩ : ∃ M, M = mkM (G.R + (tallD (dx, dy)).toNat) (G.C + dx.toNat) (mnF G.f (dnN dy) (upN dy) dx.toNat G.C G.R 0) := ⟨_, rfl⟩
        have HM := hide hM
        rw [← hM] at HMI
        clear hcl hd hG s5 t1 t2 t3 t4 hM hG16
        go_wp2_with (first | (with_reducible refine wpList_loadDir HD1.out rfl _ rfl rfl ?_) | ((with_reducible refine (HMI.out _ HM6.out).mono ?_); rintro e w7 ⟨x, rfl, ho, hb⟩; have HO7 := hide ho; have HB7 := hide (HB6.out.trans (hb.mono HB6.out.size)); have hs7 := hb.size; clear hb ho))
        go_roundw
        case rel =>
          have e : M = mkM (G.minus (dx, dy)).R (G.minus (dx, dy)).C (G.minus (dx, dy)).f := by
            rw [HM.out, HMR.out.1, HMR.out.2]
            exact mkM_congr fun y x _ _ => HLS.out y x
          exact ⟨k + 1, wr.heap.size, w7.heap.size, by omega, by go_num, by rw [HNX.out, ← e]; exact ownMat_mono HO7.out (by first | omega | simp) (Nat.le_refl _), HB5.out.size, Nat.le_refl _, HB7.out⟩
        case measure => simp [intOf]; omega
      · obtain rfl : k = n := by omega
        have HE : Hid (l.take k = l) := hide (List.take_of_length_le (by rw [HNN.out]; exact Nat.le_refl _))
        rw [HE.out] at HO
        go_wp2
        go_ret2
        exact ⟨_, rfl, ownMat_mono HO.out hlo hhi, HB5.out⟩
end Go.Proofs.Ytiajdmoppgpgnaa
/-
  The exact law on BasicGhost, walked.
-/
namespace Go.Proofs.Ytiajdmoppgpgnaa
open Go.RowKit
set_option linter.unusedVariables false

set_option maxRecDepth 100000 in
set_option maxHeartbeats 4000000 in
theorem lawBasicGhost_gen (a0 : Option Addr) (n0 c0 : Nat) (l0 : List (Int × Int)) (w : World) (hin0 : InDrs w (.slice a0 n0 c0) l0) (m_0 : List (List Int)) (b_1 : Bool) (hres0 : m_0.length + cellsM m_0 ≤ 1000000)
    (hs : ∀ (v0 : Value) (w : World), DrsC w v0 l0 → Calls Try.prog 31 #[v0] w (MatRes2 m_0 b_1 w))
    (hi : ∀ (v0 : Value) (w : World), DrsC w v0 l0 → Calls Try.prog 32 #[v0] w (MatRes2 m_0 b_1 w)) :
    Calls Try.prog 6 #[.slice a0 n0 c0] w fun e w' => e = .returned (.bool true) ∧ Below w.heap.size w w' := by
  have HI0 := hide hin0
  obtain ⟨a', c', he, hm0, -⟩ := hin0
  cases he
  unfold maxLen at hm0
  have hbb1 : (b_1 != b_1) = false := by cases b_1 <;> rfl
  go_enter Try.func6, Try.ntmps6
  go_wp2_with fail
  refine (szDirectionS_any _ l0 (1048576) _ (by omega) HI0.out).mono ?_
  rintro e w1 ⟨q0, rfl, hq0, rfl⟩
  rcases hq0 with rfl | ⟨hsz0, rfl⟩
  · go_wp2
    go_ret
    exact ⟨rfl, Below.refl _ _⟩
  · skip
    have HZ0 : Hid (l0.length ≤ 1048576) := hide (by omega)
    have HS := hide (hs); have HM := hide (hi)
    clear hs hi
    go_wp2_with fail
    refine (toDirectionS_any _ l0 _ (by have := HZ0.out; omega) HI0.out).mono ?_
    rintro e w2 ⟨p0, rfl, ho, hb⟩
    have P0L := hide (fun k e => World.ownsRow.lt (ho) k e)
    have P0_2 := hide (ho)
    have HB2 := hide (hb)
    have s2 := hb.size
    clear ho hb
    go_wp2_with fail
    refine (HS.out p0 _ (drsC_own P0_2.out)).mono ?_
    rintro e w3 ⟨u0, rfl, ho, hb⟩
    have U0_3 := hide (ho)
    have HB3 := hide (HB2.out.trans (hb.mono HB2.out.size))
    have s3 := hb.size
    clear ho hb
    go_wp2_with fail
    refine (toDirectionS_any _ l0 _ (by have := HZ0.out; omega) (inDrs_below HI0.out HB3.out)).mono ?_
    rintro e w4 ⟨x0, rfl, ho, hb⟩
    have U0_4 := hide (ownMat_below U0_3.out hb)
    have X0L := hide (fun k e => World.ownsRow.lt (ho) k e)
    have X0_4 := hide (ho)
    have HB4 := hide (HB3.out.trans (hb.mono HB3.out.size))
    have s4 := hb.size
    clear ho hb
    go_wp2_with fail
    refine (HM.out x0 _ (drsC_own X0_4.out)).mono ?_
    rintro e w5 ⟨g0, rfl, ho, hb⟩
    have U0_5 := hide (ownMat_below U0_4.out hb)
    have X0_5 := hide (ownDrs_below X0_4.out hb)
    have G0_5 := hide (ho)
    have HB5 := hide (HB4.out.trans (hb.mono HB4.out.size))
    have s5 := hb.size
    clear ho hb
    go_wp2_with fail
    refine (eqIntSS_same g0 u0 m_0 _ (inMat_own G0_5.out) (inMat_own U0_5.out)).mono ?_
    rintro e w6 ⟨rfl, hb⟩
    have U0_6 := hide (ownMat_below U0_5.out hb)
    have X0_6 := hide (ownDrs_below X0_5.out hb)
    have G0_6 := hide (ownMat_below G0_5.out hb)
    have HB6 := hide (HB5.out.trans (hb.mono HB5.out.size))
    have s6 := hb.size
    clear hb
    go_wp2_with fail
    refine (toDirectionS_any _ l0 _ (by have := HZ0.out; omega) (inDrs_below HI0.out HB6.out)).mono ?_
    rintro e w7 ⟨z0, rfl, ho, hb⟩
    have U0_7 := hide (ownMat_below U0_6.out hb)
    have X0_7 := hide (ownDrs_below X0_6.out hb)
    have G0_7 := hide (ownMat_below G0_6.out hb)
    have Z0L := hide (fun k e => World.ownsRow.lt (ho) k e)
    have Z0_7 := hide (ho)
    have HB7 := hide (HB6.out.trans (hb.mono HB6.out.size))
    have s7 := hb.size
    clear ho hb
    go_wp2_with fail
    refine (eqDirectionS_same x0 z0 l0 _ (inDrs_own X0_7.out) (inDrs_own Z0_7.out)).mono ?_
    rintro e w8 ⟨rfl, hb⟩
    have U0_8 := hide (ownMat_below U0_7.out hb)
    have X0_8 := hide (ownDrs_below X0_7.out hb)
    have G0_8 := hide (ownMat_below G0_7.out hb)
    have HB8 := hide (HB7.out.trans (hb.mono HB7.out.size))
    have s8 := hb.size
    clear hb
    go_wp2_with fail
    refine (markDirectionS_any l0.length 1 x0 _ _ _ (by have := HZ0.out; omega) (by omega) X0_8.out).mono ?_
    rintro e w9 ⟨rfl, -, hg⟩
    have hwi := within_grown (lo := w3.heap.size) (hi := w4.heap.size) hg (fun k e => X0L.out k e); clear hg
    have U0_9 := hide (ownMat_within U0_8.out hwi (by omega))
    have G0_9 := hide (ownMat_within G0_8.out hwi (by omega))
    have HB9 := hide (HB8.out.trans (below_within hwi (by omega) HB8.out.size))
    have s9 := hwi.size
    clear hwi
    go_wp2_with fail
    refine (eqIntSS_same g0 u0 m_0 _ (inMat_own G0_9.out) (inMat_own U0_9.out)).mono ?_
    rintro e w10 ⟨rfl, hb⟩
    have U0_10 := hide (ownMat_below U0_9.out hb)
    have G0_10 := hide (ownMat_below G0_9.out hb)
    have HB10 := hide (HB9.out.trans (hb.mono HB9.out.size))
    have s10 := hb.size
    clear hb
    go_wp2_with fail
    refine (markIntSS_any m_0 1 _ _ g0 _ (by omega) (by omega) G0_10.out).mono ?_
    rintro e w11 ⟨rfl, ho, hwi⟩
    have U0_11 := hide (ownMat_within U0_10.out hwi (by omega))
    have HB11 := hide (HB10.out.trans (below_within hwi (by omega) HB10.out.size))
    have s11 := hwi.size
    clear hwi
    have M_11 := hide (inMat_own ho); clear ho
    go_wp2_with fail
    refine (heldIntSS_any m_0 1 g0 _ (by omega) (by omega) M_11.out).mono ?_
    rintro e w12 ⟨rfl, hb⟩
    have U0_12 := hide (ownMat_below U0_11.out hb)
    have M_12 := hide (inMat_below M_11.out hb)
    have HB12 := hide (HB11.out.trans (hb.mono HB11.out.size))
    have s12 := hb.size
    clear hb
    go_wp2_with fail
    refine (toDirectionS_any _ l0 _ (by have := HZ0.out; omega) (inDrs_below HI0.out HB12.out)).mono ?_
    rintro e w13 ⟨y0, rfl, ho, hb⟩
    have U0_13 := hide (ownMat_below U0_12.out hb)
    have M_13 := hide (inMat_below M_12.out hb)
    have Y0L := hide (fun k e => World.ownsRow.lt (ho) k e)
    have Y0_13 := hide (ho)
    have HB13 := hide (HB12.out.trans (hb.mono HB12.out.size))
    have s13 := hb.size
    clear ho hb
    go_wp2_with fail
    refine (HM.out y0 _ (drsC_own Y0_13.out)).mono ?_
    rintro e w14 ⟨h0, rfl, ho, hb⟩
    have U0_14 := hide (ownMat_below U0_13.out hb)
    have M_14 := hide (inMat_below M_13.out hb)
    have H0_14 := hide (ho)
    have HB14 := hide (HB13.out.trans (hb.mono HB13.out.size))
    have s14 := hb.size
    clear ho hb
    go_wp2_with fail
    refine (eqIntSS_same h0 u0 m_0 _ (inMat_own H0_14.out) (inMat_own U0_14.out)).mono ?_
    rintro e w15 ⟨rfl, hb⟩
    have U0_15 := hide (ownMat_below U0_14.out hb)
    have M_15 := hide (inMat_below M_14.out hb)
    have H0_15 := hide (ownMat_below H0_14.out hb)
    have HB15 := hide (HB14.out.trans (hb.mono HB14.out.size))
    have s15 := hb.size
    clear hb
    go_wp2_with fail
    refine (heldIntSS_any m_0 1 g0 _ (by omega) (by omega) M_15.out).mono ?_
    rintro e w16 ⟨rfl, hb⟩
    have M_16 := hide (inMat_below M_15.out hb)
    have HB16 := hide (HB15.out.trans (hb.mono HB15.out.size))
    have s16 := hb.size
    clear hb
    go_wp2
    go_ret
    exact ⟨rfl, HB16.out⟩

theorem bgM_size (l : List (Int × Int)) : (bgM l).length + cellsM (bgM l) ≤ 1000000 := by
  unfold bgM
  by_cases h : bgB l = true
  · rw [if_pos h]
    unfold bgB at h
    rw [Bool.and_eq_true] at h
    have hs := sizeOk_yes h.2
    have h2 := Katz.ghost_size l ⟨1, 1, fun _ _ => 1⟩ fun d hd => (dirsB_near h.1 d hd).x1
    have h3 := ghG_size l fun d hd => (dirsB_near h.1 d hd).x1
    rw [mkM_len, cells_mkM]
    have : (ghG l).R * (ghG l).C ≤ 5 * 5 := Nat.mul_le_mul (by omega) (by omega)
    omega
  · rw [if_neg h]; simp [cellsM]
theorem lawBasicGhost_walk (a0 : Option Addr) (n0 c0 : Nat) (l0 : List (Int × Int)) (w : World) (hin0 : InDrs w (.slice a0 n0 c0) l0) :
    Calls Try.prog 6 #[.slice a0 n0 c0] w fun e w' => e = .returned (.bool true) ∧ Below w.heap.size w w' :=
  lawBasicGhost_gen a0 n0 c0 l0 w hin0 (bgM l0) (bgB l0) (bgM_size l0) (fun v0 w h0 => specBasicGhost_any v0 l0 w h0) (fun v0 w h0 => implBasicGhost_any v0 l0 w h0)
end Go.Proofs.Ytiajdmoppgpgnaa
