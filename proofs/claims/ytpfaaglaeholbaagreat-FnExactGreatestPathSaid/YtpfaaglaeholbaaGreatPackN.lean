/-
  Texts of this claim, one behind the other: Visit, Seq, ShSort, SortF, Bound, Bounds.
-/
import Derived.Test.YtpfaaglaeholbaaGreatPackM
import Derived.WalkMore
import Derived.Deep.LoopGhost
import Derived.Test.YtpfaaglaeholbaaGreatPackH
import Derived.RangeFuncBox
import Derived.RangeFuncLeaves
import Derived.Shelf.Abstract
import Derived.OwnWalkIn
import Derived.TacticsInMore
import Derived.LoopNIn
import Derived.LoopIn
import Derived.Maps.AppendAt
import Derived.Shelf.SlSortCmp.NoneTotal
import Derived.Test.YtpfaaglaeholbaaGreatProg
import Derived.Test.YtpfaaglaeholbaaGreatPackI
import Derived.Test.YtpfaaglaeholbaaGreatPackC
/-
  l06Visit of the model: a search in breadth over two lists.
-/
namespace Go.Proofs.YtpfaaglaeholbaaGreat
open Go.RowKit

theorem visit_start {w w1 : World} {u : Value} {m : List (List Int)} (hu : OwnMat w1 w.heap.size w1.heap.size u m) (hb : Below w.heap.size w w1) :
    VSt w [m] [[]] (.slice (some ⟨w1.heap.size, 0, none⟩) 1 1) (.slice (some ⟨w1.heap.size + 2, 0, none⟩) 1 1) (((w1.alloc (.cells #[u] 23)).alloc (.cells #[] 111)).alloc (.cells #[.slice (some ⟨w1.heap.size + 1, 0, none⟩) 0 0] 66)) := by
  have hz := hb.size
  obtain ⟨w2, h2⟩ : ∃ w2, w2 = w1.alloc (.cells #[u] 23) := ⟨_, rfl⟩
  have a2 : Below w1.heap.size w1 w2 := by rw [h2]; exact (Below.refl _ _).alloc (Nat.le_refl _) _
  have s2 : w2.heap.size = w1.heap.size + 1 := by rw [h2]; simp
  have o2 : w2.ownsRow w.heap.size 23 1 (.slice (some ⟨w1.heap.size, 0, none⟩) 1 1) 1 [u] := by rw [h2]; exact World.ownsRow_lit w1 #[u] 1 hz (by decide) rfl
  rw [← h2]; clear h2
  obtain ⟨w3, h3⟩ : ∃ w3, w3 = w2.alloc (.cells #[] 111) := ⟨_, rfl⟩
  have a3 : Below w2.heap.size w2 w3 := by rw [h3]; exact (Below.refl _ _).alloc (Nat.le_refl _) _
  have s3 : w3.heap.size = w2.heap.size + 1 := by rw [h3]; simp
  have o3 : w3.heap[w1.heap.size + 1]? = some (.cells #[] 111 (0, 0)) := by rw [h3, ← s2]; exact heap_alloc_new w2 _
  rw [← h3]; clear h3
  have a4 := (Below.refl w3.heap.size w3).alloc (Nat.le_refl _) (.cells #[.slice (some ⟨w1.heap.size + 1, 0, none⟩) 0 0] 66)
  have o4 := World.ownsRow_lit (base := w.heap.size) (e := 66) (size := 1) w3 #[.slice (some ⟨w1.heap.size + 1, 0, none⟩) 0 0] 1 (by omega) (by decide) rfl
  rw [show w3.heap.size = w1.heap.size + 2 by omega] at o4
  have b3 := a2.trans (a3.mono a2.size)
  have b4 := b3.trans (a4.mono b3.size)
  refine ⟨⟨[u], own_below (own_below o2 a3) a4, fun i hi => ?_⟩, ⟨[.slice (some ⟨w1.heap.size + 1, 0, none⟩) 0 0], o4, fun i hi => ?_⟩, hb.trans (b4.mono hb.size)⟩
  · obtain rfl : i = 0 := by simpa using hi
    exact ⟨w1.heap.size, b4.size, ownMat_below hu b4⟩
  · obtain rfl : i = 0 := by simpa using hi
    exact ownSwE_below (emptyF_own o3 (by omega)) a4
theorem swAt_kept {w w' : World} {B e n z g : Nat} {u : Value} {s : Sw} {xs : List Value} (h : SwAt w g s) (hu : w.ownsRow B e z u n xs) (hg : w.grownBy w' u.ownBlock) (hne : 111 ≠ e) : SwAt w' g s := by
  have := grownA_kept (oneF_own h) hu hg hne
  unfold SwAt at h ⊢
  rw [hg.block g (Array.getElem?_eq_some_iff.1 h).1 ?_]
  · exact h
  · intro e'
    rcases ownA_types (oneF_own h) hu hne with h1 | h1
    · simp [Value.ownBlock] at h1
    · exact h1 e'
theorem below_push {B e n z : Nat} {w w1 w2 : World} {u : Value} {xs : List Value} (h : Below B w w1) (hu : w1.ownsRow B e z u n xs) (hg : w1.grownBy w2 u.ownBlock) (hB : B ≤ w.heap.size) : Below B w w2 := h.grown hg (Nat.le_trans hB h.size) fun k hk => (hu.lt k hk).1
set_option maxRecDepth 100000 in
set_option maxHeartbeats 8000000 in
theorem l06Visit_any (v : Value) (R C : Nat) (f : Nat → Nat → Int) (w : World) (hin : InMat w v (mkM R C f)) (hI : Img R C f) (hR : R ≤ 4) (hC : C ≤ 4) :
    Calls Tryz.prog 51 #[v] w (VisitRes (mkM R C f) w) := by
  have HM : Hid (Node R C (mkM R C f)) := hide ⟨f, rfl, hI⟩
  have HSIZE := hide (fun L W a K (h : Bfs (mkM R C f) L W a K) => bfs_size HM.out hR hC h)
  have HCP := hide fun w h => l02Copy_any v R C f w h hI
  have HI := hide hin
  obtain ⟨m, hm⟩ : ∃ m, m = mkM R C f := ⟨_, rfl⟩
  rw [← hm] at HM HCP HI ⊢
  rw [← hm] at HSIZE
  clear hin hI hR hC hm
  go_enter Tryz.func51, Tryz.ntmps51
  go_wp2_with ((with_reducible refine (HCP.out _ HI.out).mono ?_); rintro e w1 ⟨u, rfl, hu, hb1⟩; obtain ⟨ua, un, uc, rfl⟩ : ∃ a n c, u = .slice a n c := ownM2_slice ⟨_, Nat.le_refl _, hu⟩)
  have HST := hide (visit_start hu hb1)
  have HBF := hide (bfs_start m)
  clear hu hb1
  go_loopg [4, 5, 6] 65536 (fun g lv wv i w' => ∃ L W a, a + g = 65536 ∧ i = .int .i64 a ∧ Bfs m L W a 0 ∧ VSt w L W lv wv w')
  case atStart => exact ⟨[m], [[]], 0, rfl, rfl, HBF.out, HST.out⟩
  case round =>
    clear HST HBF
    obtain ⟨L, W, a, hag, rfl, hbf, hst⟩ := hrel
    have HBF := hide hbf; have HST := hide hst
    have hL := HSIZE.out L W a 0 hbf
    have ha := hbf.le
    have hwl := hbf.len
    by_cases hlt : a < L.length
    · obtain ⟨g, rfl⟩ : ∃ g, gk = g + 1 := ⟨gk - 1, by omega⟩
      obtain ⟨gl, cl, xa, xn, xc, rfl, hgl, hxc, hx⟩ := imgs_at hst.1 hlt
      have HX := hide (bfs_node HM.out hbf hlt)
      have HXIN : Hid (InMat wr (.slice xa xn xc) (L.getD a [])) := hide (by obtain ⟨_, -, h⟩ := hx; exact inMat_own h)
      obtain ⟨x, hxx⟩ : ∃ x, x = L.getD a [] := ⟨_, rfl⟩
      have HXX := hide hxx
      rw [← hxx] at HX HXIN
      obtain ⟨n, hn⟩ : ∃ n, n = L.length := ⟨_, rfl⟩
      have hlt2 : a < n := by rw [hn]; exact hlt
      have hltI : (a : Int) < (n : Int) := by omega
      rw [← hn] at HST ⊢
      clear hbf hst hx hxx hn ha hwl
      go_wp2_with ((with_reducible refine (specSwitches_node _ _ HXIN.out HX.out).mono ?_); rintro e w6 ⟨sv, rfl, hsv, hb6⟩; obtain ⟨asl, cs, rfl⟩ := ownA_slice hsv)
      have HSV := hide (ownSws_base hsv HST.out.2.2.size); have HST6 := hide (vst_below HST.out hb6)
      have HEND := hide (befS_end HX.out)
      obtain ⟨S, hS⟩ : ∃ S, S = swsM x := ⟨_, rfl⟩
      have HS := hide hS
      rw [← hS] at HSV HEND ⊢
      obtain ⟨N, hNS⟩ : ∃ N, N = S.length := ⟨_, rfl⟩
      have HNS := hide hNS
      have hSL : N ≤ 625 := by rw [hNS, hS]; exact upS_len x 625
      rw [← hNS] at HEND ⊢
      clear hsv hb6 HST HXIN hgl hxc hS hNS
      go_loopg [4, 5, 27] N (fun g lv wv i w' => ∃ L W k, k + g = N ∧ i = .int .i64 k ∧ Bfs m L W a (befS S k) ∧ a < L.length ∧ x = L.getD a [] ∧ VSt w L W lv wv w' ∧ OwnSws w' w.heap.size (.slice asl N cs) S)
      case atStart => exact ⟨L, W, 0, Nat.zero_add _, rfl, HBF.out, hlt, HXX.out, HST6.out, by rw [HNS.out]; exact HSV.out⟩
      case round =>
        clear HST6 HSV HBF HXX hlt hlt2 hltI hL
        obtain ⟨L1, W1, k, hkg, rfl, hbf, hlt, hxx, hst, hsv⟩ := hrel
        have HBF := hide hbf; have HXX := hide hxx; have HLT := hide hlt
        have hL1 := HSIZE.out L1 W1 a _ hbf
        cases gk with
        | zero =>
          obtain rfl : k = N := by omega
          have HNX := hide (bfs_next hbf hlt HEND.out.1 (by rw [← hxx]; exact HEND.out.2))
          have HST := hide hst
          clear hbf hxx hst hsv
          go_wp2
          go_roundg g
          case measure => exact Nat.lt_succ_self g
          case rel => exact ⟨L1, W1, a + 1, by omega, by go_num, HNX.out, HST.out⟩
        | succ g2 =>
          have hk : k < N := by omega
          have hkI : (k : Int) < N := by omega
          have hkS : k < S.length := by rw [← HNS.out]; exact hk
          obtain ⟨gs, cs2, e, -⟩ := ownA_some hsv (by rw [← HNS.out]; omega)
          cases e
          have hsc := sws_cell hsv k hkS
          have HSV := hide hsv; have HST := hide hst
          have HLE := hide (befS_le (x := x) (k := k) (by rw [← HS.out]; exact hkS))
          have HALLS := hide (befS_all HX.out (k := k) (by rw [← HS.out]; exact hkS))
          have HSB := hide (sws_at HX.out (k := k) (by rw [← HS.out]; exact hkS))
          have HNEXT : Hid (befS S (k + 1) = numS (S.getD k zeroSw)) := hide rfl
          rw [← HS.out] at HLE HALLS HSB
          obtain ⟨s, hs⟩ : ∃ s, s = S.getD k zeroSw := ⟨_, rfl⟩
          rw [← hs] at hsc HLE HALLS HSB HNEXT
          clear hsv hst hbf hxx hs hkS
          go_wp2_with (first | (with_reducible refine wpList_loadSwC hsc 30 rfl rfl _ rfl rfl ?_) | ((with_reducible refine wpList_allocSw 8 rfl rfl rfl ?_); intro w7 h7 b7 s7) | ((refine wpList_storeSw h7 s rfl (.tmp 8) (.tmp 30) rfl rfl rfl ?_); intro w8 h8 g8 s8))
          have b8 := b7.trans (grown_below g8 (fun k hk => by cases hk; exact Nat.le_refl _) b7.size)
          have E1 := hide (vst_below HST.out b8); have E2 := hide (ownSws_below HSV.out b8); have E3 := hide h8
          obtain ⟨gw, hgw⟩ : ∃ gw, gw = wr.heap.size := ⟨_, rfl⟩
          rw [← hgw] at E3 ⊢
          obtain ⟨gl, cl, xa, xn, xc, rfl, hgl, hxc, hx⟩ := imgs_at E1.out.1 hlt
          have HGL := hide hgl; have HXC := hide hxc
          have HXIN : Hid (InMat w8 (.slice xa xn xc) x) := hide (by rw [HXX.out]; obtain ⟨_, -, h⟩ := hx; exact inMat_own h)
          obtain ⟨n1, hn1⟩ : ∃ n1, n1 = L1.length := ⟨_, rfl⟩
          have HN1 := hide hn1
          have hlt2 : a < n1 := by rw [hn1]; exact hlt
          have hltI : (a : Int) < (n1 : Int) := by omega
          rw [← hn1] at hL1 E1 ⊢
          have hwh : w.heap.size ≤ w8.heap.size := E1.out.2.2.size
          clear h7 b7 s7 h8 g8 s8 b8 hsc HSV HST hgw hgl hxc hx hn1 hlt
          obtain ⟨fs, hfs⟩ : ∃ fs : List FactP, fs = [isV (.slice (some ⟨gl, 0, none⟩) n1 cl), isV (.int .i64 a), isV (.pointer (some ⟨gl, a, none⟩)), isV (.slice xa xn xc), isV (swV s), imgNew w8.heap.size (flipM x s)] := ⟨_, rfl⟩
          have hst : ∀ f ∈ fs, StableP f := by
            rw [hfs]; intro f hf
            simp only [List.mem_cons, List.not_mem_nil, or_false] at hf
            rcases hf with rfl | rfl | rfl | rfl | rfl | rfl <;> first | exact stable_v _ | exact stable_imgNew _ _
          subst hfs
          refine wp_region_tail (S := fun w2 => Below w8.heap.size w8 w2) [isV (.slice (some ⟨gl, 0, none⟩) n1 cl), isV (.int .i64 a), isV (.pointer (some ⟨gl, a, none⟩)), isV (.slice xa xn xc), isV (swV s), imgNew w8.heap.size (flipM x s)] [(4, .slice (some ⟨gl, 0, none⟩) n1 cl), (6, .int .i64 a), (8, .pointer (some ⟨gw, 0, none⟩))] _ _ 6 (by kernel_rfl) rfl rfl (by kernel_rfl) (by kernel_rfl) rfl (by kernel_rfl) ?base (below_drew (Below.refl _ _)) ?ob rfl ?fin
          case base =>
            intro t v ht
            simp only [List.lookup_cons, List.lookup_nil] at ht
            repeat' split at ht
            all_goals first | (cases ht; done) | (obtain rfl := Option.some.inj ht; rename_i hh; obtain rfl := eq_of_beq hh; rfl)
          case ob =>
            exact ⟨obt_move (.slice (some ⟨gl, 0, none⟩) n1 cl) rfl rfl rfl (srt_b 4 rfl),
              obt_move (.int .i64 a) rfl rfl rfl (srt_b 6 rfl),
              obt_two (.pointer (some ⟨gl, a, none⟩)) rfl rfl (srt_j 0 rfl (by kernel_rfl) rfl) (srt_j 1 rfl (by kernel_rfl) rfl) (fun ρ w2 hS hx hy => by go_simp),
              obt_one (.slice xa xn xc) rfl rfl (srt_j 2 rfl (by kernel_rfl) rfl) (fun ρ w2 hS hx => by have hc := below_cell hS HGL.out HXC.out; go_simp),
              obt_one (swV s) rfl rfl (srt_b 8 rfl) (fun ρ w2 hS hx => exec_loadSw rfl hx (swAt_below E3.out hS)),
              obt_call hst [.slice xa xn xc, swV s] rfl Tryz.func95 (by kernel_rfl) (by kernel_rfl) rfl ⟨(srt_j 3 rfl (by kernel_rfl) rfl), (srt_j 4 rfl (by kernel_rfl) rfl), trivial⟩ (fun w2 hS => (specApply_node _ w2 (inMat_below HXIN.out hS) HX.out HSB.out).mono fun e w3 hh => ⟨hh.choose, hh.choose_spec.1, hS.trans (hh.choose_spec.2.2.mono hS.size), hh.choose_spec.2.2, ⟨w3.heap.size, Nat.le_refl _, ownMat_mono hh.choose_spec.2.1 hS.size (Nat.le_refl _)⟩⟩),
              trivial⟩
          case fin =>
            intro a' w' h1 h2 h3 hS h4 K hK
            have hx5 : OwnM2 w' w8.heap.size (a'.tmps.getD 36 undef) (flipM x s) := h4 5 36 rfl (by decide)
            obtain ⟨x36, hx36⟩ : ∃ u, a'.tmps.getD 36 undef = u := ⟨_, rfl⟩
            rw [hx36] at hx5
            obtain ⟨ya, yn, yc, rfl⟩ := ownM2_slice hx5
            refine tail_assign rfl (show a'.eval (.tmp 36) = .slice ya yn yc from hx36) ?_ K hK
            have ha := frame_ov rfl h1 h2 h3 [(31, .slice (some ⟨gl, 0, none⟩) n1 cl), (32, .int .i64 a), (33, .pointer (some ⟨gl, a, none⟩)), (34, .slice xa xn xc), (35, swV s), (36, .slice ya yn yc), (9, a'.tmps.getD 9 undef)] (by kernel_rfl) ⟨h4 0 31 rfl (by decide), h4 1 32 rfl (by decide), h4 2 33 rfl (by decide), h4 3 34 rfl (by decide), h4 4 35 rfl (by decide), hx36, rfl, trivial⟩
            dsimp only [ov, List.lookup, Nat.reduceBEq, Nat.reduceAdd] at ha
            show Exit.then _ _ Exit.normal (Act.put a' (some 9) (.slice ya yn yc)) _
            rw [ha]
            generalize a'.tmps.getD 9 undef = u9
            have HY := hide (⟨hx5.choose, hx5.choose_spec.1, ownMat_mono hx5.choose_spec.2 hwh (Nat.le_refl _)⟩ : OwnM2 w' w.heap.size (.slice ya yn yc) (flipM x s))
            have F1 := hide (vst_below E1.out hS); have F2 := hide (ownSws_below E2.out hS); have F3 := hide (swAt_below E3.out hS)
            clear ha h1 h2 h3 h4 hst hK hx36 hx5 E1 E2 E3 HGL HXC HXIN hS hwh
            have FIN := hide (l06Find_any (.slice (some ⟨gl, 0, none⟩) n1 cl) (.slice ya yn yc) L1 (flipM x s) w' (ownImgs_in F1.out.1) (by obtain ⟨_, -, h⟩ := HY.out; exact inMat_own h))
            by_cases hy : flipM x s ∈ L1
            · have HKN := hide (bfs_known HM.out HBF.out HLT.out (by rw [← HXX.out]; exact HSB.out) HLE.out (by rw [← HXX.out]; exact HALLS.out) (by rw [← HXX.out]; exact hy))
              have HIN := hide hy
              clear hy
              go_wp2_with ((with_reducible refine FIN.out.mono ?_); rintro e w10 ⟨r, rfl, hb, hr⟩; obtain ⟨k2, rfl⟩ : ∃ k2 : Nat, r = k2 := (by rcases hr with ⟨-, hno⟩ | ⟨k2, h, -⟩; exact absurd HIN.out hno; exact ⟨k2, h⟩); have hk0 : (0 : Int) ≤ (k2 : Int) := Int.natCast_nonneg k2; have G1 := hide (vst_below F1.out hb); have G2 := hide (ownSws_below F2.out hb); clear hb hr)
              go_roundg g2
              case measure => exact Nat.lt_succ_self g2
              case rel => exact ⟨L1, W1, k + 1, by omega, by go_num, by rw [HNEXT.out]; exact HKN.out, HLT.out, HXX.out, G1.out, G2.out⟩
            · have HNW := hide (bfs_new HM.out HBF.out HLT.out (by rw [← HXX.out]; exact HSB.out) HLE.out (by rw [← HXX.out]; exact HALLS.out) (by rw [← HXX.out]; exact hy))
              rw [← HXX.out] at HNW
              have HNI := hide hy
              have HWLEN := hide HBF.out.len
              have HPL := hide (bfs_wlen HBF.out a HLT.out)
              have HPUSH := hide F1.out.1
              clear hy
              go_wp2_with (first | ((with_reducible refine FIN.out.mono ?_); rintro e w10 ⟨r, rfl, hb, hr⟩; obtain rfl : r = -1 := (by rcases hr with ⟨h, -⟩ | ⟨k2, -, hk2, e2⟩; exact h; exact absurd (by rw [← e2]; exact List.getElem_mem hk2) HNI.out); have G1 := hide (vst_below F1.out hb); have G2 := hide (ownSws_below F2.out hb); have G3 := hide (swAt_below F3.out hb); have GY := hide (ownM2_below HY.out hb); obtain ⟨us, hv, hvr⟩ := G1.out.1; rw [← HN1.out] at hv; have HV := hide hv; have HVR := hide hvr; clear hb hr hv hvr F1 F2 F3 HY FIN) | (at_builtin; refine wpList_push HV.out (.slice ya yn yc) (.slice none 0 0) rfl (.tmp 41) (.tmp 43) rfl Tryz.underlying61 Tryz.infoMat rfl (by decide) rfl rfl rfl (by omega) G1.out.2.2.size ?_; intro v44 w11 ho11 hb11 hg11; obtain ⟨a44, c44, rfl⟩ := own_slice ho11))
              have K1 := hide (ownImgs_push (by rw [← HN1.out]; exact HV.out) HVR.out GY.out hg11 (by rw [← HN1.out]; exact ho11))
              have K2 := hide (grownA_kept G2.out HV.out hg11 (by decide))
              have K3 := hide (swAt_kept G3.out HV.out hg11 (by decide))
              have K4 := hide (ownWs_kept G1.out.2.1 HV.out hg11 (by decide) (by decide))
              have KB := hide (below_push G1.out.2.2 HV.out hg11 (Nat.le_refl _))
              clear ho11 hb11 hg11 G1 G2 G3 GY HV HVR
              obtain ⟨gv, cv, gp, pc, rfl, hgv, hpc, hp⟩ := ways_at K4.out (a := a) (by rw [HWLEN.out]; exact HLT.out)
              have HGV := hide hgv; have HPC := hide hpc; have HP := hide hp
              rw [HWLEN.out, ← HN1.out]
              obtain ⟨P, hP⟩ : ∃ P, P = W1.getD a [] := ⟨_, rfl⟩
              rw [← hP] at HPC HP HPL HNW
              have HPP := hide hP
              obtain ⟨nP, hnP⟩ : ∃ nP, nP = P.length := ⟨_, rfl⟩
              rw [← hnP] at HPC HP HPL
              have HNP := hide hnP
              have hwh : w.heap.size ≤ w11.heap.size := KB.out.size
              clear hgv hpc hp hP hnP
              have HK4 : Hid (OwnWs w11 w.heap.size (.slice (some ⟨gv, 0, none⟩) n1 cv) W1) := hide (by have h := K4.out; rw [HWLEN.out, ← HN1.out] at h; exact h)
              obtain ⟨fs, hfs⟩ : ∃ fs : List FactP, fs = [isV (.slice (some ⟨gv, 0, none⟩) n1 cv), emptyF w11.heap.size, isV (.slice (some ⟨gv, 0, none⟩) n1 cv), isV (.int .i64 a), isV (.pointer (some ⟨gv, a, none⟩)), isV (.slice (some ⟨gp, 0, none⟩) nP pc), swsF w11.heap.size P, isV (swV s), oneF w11.heap.size s, swsF w11.heap.size (P ++ [s]), oneWayF w11.heap.size (P ++ [s]), waysF w11 w.heap.size (.slice (some ⟨gv, 0, none⟩) n1 cv) (W1 ++ [P ++ [s]])] := ⟨_, rfl⟩
              have hst : ∀ f ∈ fs, StableP f := by
                rw [hfs]; intro f hf
                simp only [List.mem_cons, List.not_mem_nil, or_false] at hf
                rcases hf with rfl | rfl | rfl | rfl | rfl | rfl | rfl | rfl | rfl | rfl | rfl | rfl <;> first | exact stable_v _ | exact stable_emptyF _ | exact stable_swsF _ _ | exact stable_oneF _ _ | exact stable_oneWayF _ _ | exact stable_waysF _ _ _ _
              subst hfs
              have hS1 : ∀ (wy wz : World), Below w11.heap.size w11.drew wy → Below wy.heap.size wy wz → Below w11.heap.size w11.drew wz := fun wy wz h k => h.trans (k.mono h.size)
              have hS0 : ∀ wy : World, Below w11.heap.size w11.drew wy → Below w11.heap.size w11 wy := fun wy h => (below_drew (Below.refl _ w11)).trans h
              refine wp_region_pen (S := fun wy => Below w11.heap.size w11.drew wy) 11 [isV (.slice (some ⟨gv, 0, none⟩) n1 cv), emptyF w11.heap.size, isV (.slice (some ⟨gv, 0, none⟩) n1 cv), isV (.int .i64 a), isV (.pointer (some ⟨gv, a, none⟩)), isV (.slice (some ⟨gp, 0, none⟩) nP pc), swsF w11.heap.size P, isV (swV s), oneF w11.heap.size s, swsF w11.heap.size (P ++ [s]), oneWayF w11.heap.size (P ++ [s]), waysF w11 w.heap.size (.slice (some ⟨gv, 0, none⟩) n1 cv) (W1 ++ [P ++ [s]])] [(5, .slice (some ⟨gv, 0, none⟩) n1 cv), (6, .int .i64 a), (8, .pointer (some ⟨gw, 0, none⟩))] _ _ 12 (by kernel_rfl) (by decide) (by kernel_rfl) rfl rfl (by kernel_rfl) (by kernel_rfl) rfl (by kernel_rfl) ?baseA (Below.refl _ _) ?obA rfl ?finA
              case baseA =>
                intro t v ht
                simp only [List.lookup_cons, List.lookup_nil] at ht
                repeat' split at ht
                all_goals first | (cases ht; done) | (obtain rfl := Option.some.inj ht; rename_i hh; obtain rfl := eq_of_beq hh; rfl)
              case obA =>
                exact ⟨obp_of (obn_of (by kernel_rfl) (obt_move (.slice (some ⟨gv, 0, none⟩) n1 cv) rfl rfl rfl (srt_b 5 rfl))),
    obp_of (obn_of (by kernel_rfl) (obt_make hst rfl fun ac wy hS hs => ⟨_, _, exec_buildNoSw rfl, hS1 _ _ hS ((Below.refl _ _).alloc (Nat.le_refl _) _), (Below.refl _ _).alloc (Nat.le_refl _) _, ⟨wy.heap.size, rfl, hS.size, heap_alloc_new wy _⟩⟩)),
    obp_of (obn_of (by kernel_rfl) (obt_move (.slice (some ⟨gv, 0, none⟩) n1 cv) rfl rfl rfl (srt_b 5 rfl))),
    obp_of (obn_of (by kernel_rfl) (obt_move (.int .i64 a) rfl rfl rfl (srt_b 6 rfl))),
    obp_of (obn_of (by kernel_rfl) (obt_two (.pointer (some ⟨gv, a, none⟩)) rfl rfl (srt_j 2 rfl (by kernel_rfl) rfl) (srt_j 3 rfl (by kernel_rfl) rfl) (fun ρ w2 hS hx hy => by go_simp))),
    obp_of (obn_of (by kernel_rfl) (obt_one (.slice (some ⟨gp, 0, none⟩) nP pc) rfl rfl (srt_j 4 rfl (by kernel_rfl) rfl) (fun ρ w2 hS hx => by have hc := below_cell (hS0 _ hS) HGV.out HPC.out; go_simp))),
    fun ac wy hS hB hD K hK => by
      obtain ⟨g, e46, hg1, hg2⟩ : emptyF w11.heap.size (ac.tmps.getD 46 undef) wy := hD 1 46 rfl (by kernel_rfl)
      have h50 : ac.tmps.getD 50 undef = .slice (some ⟨gp, 0, none⟩) nP pc := hD 5 50 rfl (by kernel_rfl)
      obtain ⟨v', wz, hr, ho, hgr⟩ := exec_appSws 66 (emptyF_own hg2 hg1) (ownSws_below HP.out (hS0 _ hS)) hS.size (by have := HPL.out; have := HNP.out; simp only [List.length_nil]; omega)
      refine ⟨.inl rfl, run_value v' (hr ac.eval _ (.tmp 46) (.tmp 50) rfl rfl e46 h50) (hK _ _ (fun _ => hS.grown hgr hS.size (fun k hk => by cases hk; exact hg1)) (fun j hj => ?_) ho)⟩
      have hj' := List.all_eq_true.1 (show ((needPL _ 6).all fun j => j == 0 || j == 7 || j == 8) = true by kernel_rfl) j (needPL_of hj)
      simp only [Bool.or_eq_true, beq_iff_eq] at hj'
      rcases hj' with (rfl | rfl) | rfl
      · exact fun u h => h
      · exact fun u h => h
      · exact fun u h => oneF_far h hg2 hgr,
    obp_of (obn_of (by kernel_rfl) (obt_one (swV s) rfl rfl (srt_b 8 rfl) (fun ρ w2 hS hx => exec_loadSw rfl hx (swAt_below K3.out (hS0 _ hS))))),
    obp_of (obn_of (by kernel_rfl) (obt_make hst rfl fun ac wy hS hs => ⟨_, _, exec_buildSw (s := s) rfl (hs _ _ (srt_j 7 rfl (by kernel_rfl) rfl)), hS1 _ _ hS ((Below.refl _ _).alloc (Nat.le_refl _) _), (Below.refl _ _).alloc (Nat.le_refl _) _, ⟨wy.heap.size, rfl, hS.size, heap_alloc_new wy _⟩⟩)),
    fun ac wy hS hB hD K hK => by
      have h51 : OwnSwE wy w11.heap.size (ac.tmps.getD 51 undef) P := hD 6 51 rfl (by kernel_rfl)
      obtain ⟨b, e53, hb1, hb2⟩ : oneF w11.heap.size s (ac.tmps.getD 53 undef) wy := hD 8 53 rfl (by kernel_rfl)
      obtain ⟨v', wz, hr, ho, hgr⟩ := exec_appSws 66 h51 (oneF_own hb2) hS.size (by have := HPL.out; have := HNP.out; simp only [List.length_singleton]; omega)
      refine ⟨.inl rfl, run_value v' (hr ac.eval _ (.tmp 51) (.tmp 53) rfl rfl rfl e53) (hK _ _ (fun _ => hS.grown hgr hS.size (fun k hk => (h51.1.lt k hk).1)) (fun j hj => ?_) ho)⟩
      have hj' := List.all_eq_true.1 (show ((needPL _ 9).all fun j => j == 0) = true by kernel_rfl) j (needPL_of hj)
      simp only [beq_iff_eq] at hj'
      subst hj'
      exact fun u h => h,
    fun ac wy hS hB hD K hK => by
      have h54 : OwnSwE wy w11.heap.size (ac.tmps.getD 54 undef) (P ++ [s]) := hD 9 54 rfl (by kernel_rfl)
      obtain ⟨g, c, e54⟩ := h54.2
      have hbl : Below wy.heap.size wy (wy.alloc (.cells #[.slice (some ⟨g, 0, none⟩) (P ++ [s]).length c] 66)) := (Below.refl _ _).alloc (Nat.le_refl _) _
      have hc : (wy.alloc (.cells #[.slice (some ⟨g, 0, none⟩) (P ++ [s]).length c] 66)).cell? ⟨wy.heap.size, 0, none⟩ = some (.slice (some ⟨g, 0, none⟩) (P ++ [s]).length c) := by
        rw [cell_of_row _ wy.heap.size 0 _ _ (0, 0) (heap_alloc_new wy _)]; rfl
      refine ⟨.inl rfl, run_value _ (exec_buildWay rfl (show ac.eval (.tmp 54) = _ from e54)) (hK _ _ (fun _ => hS1 _ _ hS hbl) (fun j _ u h => stable_all hst j u _ _ hbl h) ⟨wy.heap.size, _, rfl, by simp, hc, ?_⟩)⟩
      have h6 := ownSwE_below h54 hbl
      rw [e54] at h6
      exact h6,
    fun ac wy hS hB hD K hK => by
      have h45 : ac.tmps.getD 45 undef = .slice (some ⟨gv, 0, none⟩) n1 cv := hD 0 45 rfl (by kernel_rfl)
      obtain ⟨b, e, e55, hb1, hb2, hb3⟩ : oneWayF w11.heap.size (P ++ [s]) (ac.tmps.getD 55 undef) wy := hD 10 55 rfl (by kernel_rfl)
      obtain ⟨v', wz, hr, ho, hgr⟩ := exec_appWs 62 (ownWs_below (HK4.out) (hS0 _ hS)) hb2 hb3 hwh (Nat.le_trans hwh (hS0 _ hS).size) (by have := HWLEN.out; have := HN1.out; omega)
      exact ⟨.inl rfl, run_value v' (hr ac.eval _ (.tmp 45) (.tmp 55) rfl rfl h45 e55) (hK _ _ (fun hne => absurd rfl hne) (fun j hj => absurd (needPL_of hj) (by rw [show needPL _ 11 = [] by kernel_rfl]; simp)) ⟨grown_trans (grown_of_below (hS0 _ hS) _) hgr, ho⟩)⟩,
    trivial⟩
              case finA =>
                intro a' w' h1 h2 h3 h4 K hK
                obtain ⟨hg, ho⟩ : waysF w11 w.heap.size (.slice (some ⟨gv, 0, none⟩) n1 cv) (W1 ++ [P ++ [s]]) (a'.tmps.getD 56 undef) w' := h4 11 56 rfl (by decide) (by kernel_rfl)
                obtain ⟨v56, hv56⟩ : ∃ u, a'.tmps.getD 56 undef = u := ⟨_, rfl⟩
                rw [hv56] at ho
                refine tail_assign rfl (show a'.eval (.tmp 56) = v56 from hv56) ?_ K hK
                have ha := frame_ov rfl h1 h2 h3 [(45, a'.tmps.getD 45 undef), (46, a'.tmps.getD 46 undef), (47, a'.tmps.getD 47 undef), (48, a'.tmps.getD 48 undef), (49, a'.tmps.getD 49 undef), (50, a'.tmps.getD 50 undef), (51, a'.tmps.getD 51 undef), (52, a'.tmps.getD 52 undef), (53, a'.tmps.getD 53 undef), (54, a'.tmps.getD 54 undef), (55, a'.tmps.getD 55 undef), (56, v56), (5, a'.tmps.getD 5 undef)] (by kernel_rfl) ⟨rfl, rfl, rfl, rfl, rfl, rfl, rfl, rfl, rfl, rfl, rfl, hv56, rfl, trivial⟩
                dsimp only [ov, List.lookup, Nat.reduceBEq, Nat.reduceAdd] at ha
                show Exit.inBlock _ _ Exit.normal (Act.put a' (some 5) v56) _
                rw [ha]
                generalize a'.tmps.getD 45 undef = u45
                generalize a'.tmps.getD 46 undef = u46
                generalize a'.tmps.getD 47 undef = u47
                generalize a'.tmps.getD 48 undef = u48
                generalize a'.tmps.getD 49 undef = u49
                generalize a'.tmps.getD 50 undef = u50
                generalize a'.tmps.getD 51 undef = u51
                generalize a'.tmps.getD 52 undef = u52
                generalize a'.tmps.getD 53 undef = u53
                generalize a'.tmps.getD 54 undef = u54
                generalize a'.tmps.getD 55 undef = u55
                generalize a'.tmps.getD 5 undef = u5
                obtain ⟨us4, hu4, -⟩ := id HK4.out
                have M1 := hide (ownImgs_kept K1.out hu4 hg (by decide) (by decide) (by decide))
                have M2 := hide (grownA_kept K2.out hu4 hg (by decide))
                have MB := hide (below_push KB.out hu4 hg (Nat.le_refl _))
                have MW := hide ho
                obtain ⟨us5, hu5, -⟩ := ho
                obtain ⟨a56, c56, rfl⟩ := own_slice hu5
                obtain ⟨n56, hn56⟩ : ∃ n, n = (W1 ++ [P ++ [s]]).length := ⟨_, rfl⟩
                rw [← hn56] at MW ⊢
                clear hst h1 h2 h3 h4 hK hS1 hS0 ha hv56 hg hu4 hu5 hn56 K1 K2 K3 K4 HK4 KB HGV HPC HP
                go_wp2
                go_roundg g2
                case measure => exact Nat.lt_succ_self g2
                case rel => exact ⟨L1 ++ [flipM x s], W1 ++ [P ++ [s]], k + 1, by omega, by go_num, by rw [HNEXT.out]; exact HNW.out, by have := HLT.out; simp; omega, by rw [getD_snoc_lt _ _ _ HLT.out]; exact HXX.out, ⟨M1.out, MW.out, MB.out⟩, M2.out⟩
    · obtain rfl : a = L.length := by omega
      obtain ⟨us, hv, -⟩ := id hst.1
      obtain ⟨la, lc, rfl⟩ := own_slice hv
      obtain ⟨n, hn⟩ : ∃ n, n = L.length := ⟨_, rfl⟩
      have HN := hide hn
      rw [← hn]
      clear hbf hst hv hn ha hL hwl hlt
      go_wp2
      go_ret2
      exact ⟨_, _, L, W, 0, rfl, by have := ownImgs_in HST.out.1; rw [← HN.out] at this; exact this, ownWs_ways HST.out.2.1, HBF.out, HST.out.2.2⟩
theorem visit_at : VisitAt := fun v R C f w h1 h2 h3 h4 => l06Visit_any v R C f w h1 h2 h3 h4
end Go.Proofs.YtpfaaglaeholbaaGreat
/-
  slices.Collect over slices.Values: a copy of the list, in memory of the call's own.
-/
namespace Go.Proofs.YtpfaaglaeholbaaGreat
open Go.RowKit Go.Shelf
attribute [local go_sem] Oper.semAt_some

set_option maxRecDepth 100000 in
set_option maxHeartbeats 2000000 in
/-- The iterator of slices.Values: the elements in their order, for every body that keeps what lay in w. -/
theorem valuesEach_in (F : Fence) (n : Nat) (hF : F.fn 145) (hro : F.round = none) (hn : 1 ≤ n) (l Bs : Nat) (v : Value) (zs : List Int) (w W : World) (hin : InRow w v zs) (hW : Below w.heap.size w W) (J Jx : List Int → World → Prop)
    (hY : ∀ pre x W, J pre W → pre.length < zs.length → YieldAt F (n - 1) Tryz.prog l #[.int .i64 x] W fun e W' =>
      (e = .returned (.bool true) ∧ J (pre ++ [x]) W' ∧ Below w.heap.size W W') ∨ (e = .returned (.bool false) ∧ Jx (pre ++ [x]) W'))
    (hBs : W.cell? ⟨Bs, 0, none⟩ = some v) (h0 : J [] W) :
    CallsIn F n Tryz.prog 145 #[.func (.yield l) #[] #[], .pointer (some ⟨Bs, 0, none⟩)] W fun e W' => (∃ u, e = .returned u) ∧ ((∃ ys, ys = zs ∧ J ys W') ∨ ∃ pre, pre <+: zs ∧ Jx pre W') := by
  obtain ⟨a, c, rfl, hm, hp⟩ := hin
  unfold maxLen at hm
  have HP := hide fun h : zs.length ≠ 0 => hp.resolve_left h
  have HY := hide hY
  obtain ⟨L, hL⟩ : ∃ L, L = zs.length := ⟨_, rfl⟩
  have HL := hide hL
  rw [← hL] at hm hBs
  clear hp hL hY
  refine callsIn_of_wp Tryz.func145 rfl hF ?_ hro
  simp only [Tryz.ntmps145, List.size_toArray, List.length_cons, List.length_nil, Nat.reduceAdd, Nat.reduceSub, Array.replicate_succ, Array.replicate_zero, List.push_toArray, List.append_toArray, List.nil_append, List.cons_append]
  gi_wp2
  gi_loopw [7] (fun i wr => ∃ k : Nat, k ≤ L ∧ i = .int .i64 k ∧ J (zs.take k) wr ∧ Below w.heap.size w wr) (fun i _ => L - (intOf i).toNat)
  case atStart => exact ⟨0, Nat.zero_le _, rfl, h0, hW⟩
  case round =>
    obtain ⟨k, hk, rfl, hJ, hB⟩ := hrel
    have HB := hide hB
    clear hB
    by_cases hlt : k < L
    · obtain ⟨g, o, rfl, hg, hc⟩ := HP.out (by have := HL.out; omega)
      have hk' : k < zs.length := by rw [← HL.out]; exact hlt
      have hx := below_cell HB.out hg (hc k hk')
      have HT := hide (show zs.take (k + 1) = zs.take k ++ [zs[k]] from List.take_succ_eq_append_getElem hk')
      obtain ⟨x, hxx⟩ : ∃ x, x = zs[k] := ⟨_, rfl⟩
      rw [← hxx] at hx HT
      clear hxx hc
      obtain ⟨fn, tmps, assign, body, hy, hR⟩ := HY.out _ x wr hJ (by rw [List.length_take]; omega)
      gi_wp2
      refine hR.mono ?_
      rintro e W3 (⟨rfl, hJ3, hk3⟩ | ⟨rfl, hJx3⟩)
      · have HB3 := hide (HB.out.trans hk3)
        have HJ3 := hide (show J (zs.take (k + 1)) W3 by rw [HT.out]; exact hJ3)
        clear hJ3 hk3
        gi_wp2
        go_roundw
        case rel => exact ⟨k + 1, by omega, by go_num, HJ3.out, HB3.out⟩
        case measure => simp [intOf]; omega
      · have HJ3 := hide (show Jx (zs.take (k + 1)) W3 by rw [HT.out]; exact hJx3)
        clear hJx3
        gi_wp2
        refine bodyPost_ret (results_none rfl _ _ _) rfl ?_
        exact ⟨⟨_, rfl⟩, .inr ⟨_, List.take_prefix _ _, HJ3.out⟩⟩
    · have HE : Hid (zs.take k = zs) := hide (List.take_of_length_le (by have := HL.out; omega))
      rw [HE.out] at hJ
      gi_wp2
      go_end0
      exact ⟨⟨_, rfl⟩, .inl ⟨_, rfl, hJ⟩⟩

set_option maxRecDepth 100000 in
set_option maxHeartbeats 2000000 in
theorem appendSeq_in (F : Fence) (n : Nat) (hA : F.fn 147) (hV : F.fn 145) (hro : F.round = none) (hn : 3 ≤ n) (Bs : Nat) (v : Value) (zs : List Int) (w : World) (hin : InRow w v zs) (hlen : zs.length ≤ 2000000) (hB : Bs < w.heap.size) (hc : w.cell? ⟨Bs, 0, none⟩ = some v) :
    CallsIn F n Tryz.prog 147 #[.slice none 0 0, .func (.func 145) #[] #[.pointer (some ⟨Bs, 0, none⟩)]] w (IntsRes zs w) := by
  have h1 : 1 ≤ n := by omega
  have HI := hide hin
  obtain ⟨i0, hi, hz0, hz1, hz2⟩ := info_parts Tryz.infoInt
  clear hin
  refine callsIn_of_wp_marks Tryz.func147 rfl hA ?_ hro
  simp only [Tryz.ntmps147, List.size_toArray, List.length_cons, List.length_nil, Nat.reduceAdd, Nat.reduceSub, Array.replicate_succ, Array.replicate_zero, List.push_toArray, List.append_toArray, List.nil_append, List.cons_append]
  gi_wp2
  have bO := Boxed.new w 25 (.slice none 0 0)
  have hB0 : Below w.heap.size w (w.alloc (.cells #[.slice none 0 0] 25)) := (Below.refl _ w).alloc (Nat.le_refl _) _
  have hI0 := inRow_below HI.out hB0
  have hc0 := below_cell hB0 hB hc
  refine wpIn_rangeFunc_ownG hro h1 (gf := 145) (lb := #[.pointer (some ⟨Bs, 0, none⟩)]) rfl hV (enters_of Tryz.func145 (by kernel_rfl) rfl)
    (encs := fun x : Int => #[Value.int .i64 x]) (Kp := Below w.heap.size) (S := fun ys => ys = zs) (Sp := fun pre => pre <+: zs) (N := zs.length) (w0 := w.alloc (.cells #[.slice none 0 0] 25))
    (fun l J Jx W hW _ _ hY h0 => valuesEach_in F (n - 1) hV hro (by omega) l Bs v zs w W HI.out (hB0.trans (hW.mono hB0.size)) J Jx hY (below_cell hW (Nat.lt_of_lt_of_le hB hB0.size) hc0) h0) belowK_t (belowK_b (by simp)) (Below.refl _ _) (fun _ => rfl)
    (fun pre W => (∃ u, Boxed W w.heap.size 25 u ∧ W.ownsRow w.heap.size 3 1 u pre.length (ints pre) ∧ True) ∧ Below w.heap.size w W)
    (fun _ _ _ => False)
    (OwnFrom.and (Own.from (holdsRow_own w.heap.size w.heap.size 25 3 1 (fun pre : List Int => pre.length) (fun pre => ints pre) (fun _ _ => True)) _) (ownFrom_below (Nat.le_refl _) (by simp)))
    (fun _ _ _ _ _ hs _ _ => hs)
    ⟨⟨_, bO, World.ownsRow_nil _ _ _ _, trivial⟩, hB0⟩
    (fun x => { tmps := #[.slice none 0 0, .func (.func 145) #[] #[.pointer (some ⟨Bs, 0, none⟩)], .pointer (some ⟨w.heap.size, 0, none⟩), undef, .slice none 0 0, .int .i64 x, .func (.func 145) #[] #[.pointer (some ⟨Bs, 0, none⟩)], .int .i64 x, undef, undef, undef, undef, undef], defers := [] }) ?assign ?body ?done ?stop
  case assign =>
    intro l x W K hK
    gi_wp2
    exact hK
  case body =>
    rintro l pre x W ⟨⟨u, hv, hrow, -⟩, hBW⟩ hlt
    have hcu := hv.cell
    gi_wp2_with (gi_at_builtin; refine wpListIn_append_own _ rfl _ _ 25 rfl w.heap.size 3 i0 (.int .i64 0) 1 8 Tryz.underlying25 hi hz0 hz1 hz2 rfl (by decide) _ _ _ rfl (hrow.alloc _) ⟨W.heap.size, 0, none⟩ 1 1 [.int .i64 x] rfl rfl (cell_one_new _ _ _) (by simp [Value.oneCell']) (by unfold maxLen; omega) (by omega) (by have := hBW.size; simp; omega) ?_; intro v' w1 hown' hgrow _; obtain ⟨g', cap', rfl⟩ := ownsRow_succ hown'; obtain ⟨hv1, hv2, hr2, hk2, hb2⟩ := hv.appended (by decide) hrow hBW.size (Nat.le_refl _) hown' hgrow; have hc1 := hv1.cell; have hf1 := hv1.frozen)
    exact ⟨hk2.from _, hb2, ⟨_, hv2, by simpa [ints] using hr2, trivial⟩, hBW.trans hb2⟩
  case done =>
    rintro D ys W hD rfl ⟨⟨u, hv, hrow, -⟩, hBW⟩ hK
    have hcu := hv.cell
    gi_wp2
    refine ⟨by simp, .inl ⟨_, _, rfl, run_takeDeferred hK, ?_⟩⟩
    exact ⟨_, results_tmp rfl _ _ _, _, rfl, ownsRow_putObj hrow _ hK rfl, hBW.trans (belowK_b (w := w) (Nat.le_refl _) W D _ _ (by simp at hD; omega) hK rfl rfl)⟩
  case stop =>
    rintro D c pre W _ _ h _
    exact h.elim

set_option maxHeartbeats 1000000 in
theorem collect_in (F : Fence) (n : Nat) (hC : F.fn 143) (hA : F.fn 147) (hV : F.fn 145) (hro : F.round = none) (hn : 4 ≤ n) (Bs : Nat) (v : Value) (zs : List Int) (w : World) (hin : InRow w v zs) (hlen : zs.length ≤ 2000000) (hB : Bs < w.heap.size) (hc : w.cell? ⟨Bs, 0, none⟩ = some v) :
    CallsIn F n Tryz.prog 143 #[.func (.func 145) #[] #[.pointer (some ⟨Bs, 0, none⟩)]] w (IntsRes zs w) := by
  have HX := hide (appendSeq_in F (n - 1) hA hV hro (by omega) Bs v zs w hin hlen hB hc)
  have h1 : 1 ≤ n := by omega
  clear hin hc
  refine callsIn_of_wp Tryz.func143 rfl hC ?_ hro
  simp only [Tryz.ntmps143, List.size_toArray, List.length_cons, List.length_nil, Nat.reduceAdd, Nat.reduceSub, Array.replicate_succ, Array.replicate_zero, List.push_toArray, List.append_toArray, List.nil_append, List.cons_append]
  gi_wp2_with (gi_at_call 147; refine HX.out.mono ?_; rintro e w' ⟨u, rfl, ho, hb⟩)
  go_ret
  exact ⟨_, rfl, ho, hb⟩
theorem collectVals_any (Bs : Nat) (v : Value) (zs : List Int) (w : World) (hin : InRow w v zs) (hlen : zs.length ≤ 2000000) (hB : Bs < w.heap.size) (hc : w.cell? ⟨Bs, 0, none⟩ = some v) :
    Calls Tryz.prog 143 #[.func (.func 145) #[] #[.pointer (some ⟨Bs, 0, none⟩)]] w (IntsRes zs w) :=
  (callsIn_wide (n := 4)).1 (collect_in Fence.wide 4 trivial trivial trivial rfl (by omega) Bs v zs w hin hlen hB hc)
end Go.Proofs.YtpfaaglaeholbaaGreat
/-
  Contracts of the library, at this translation: laid by the shelf, in plain declarations.
-/
namespace Go.Proofs
open Go.Shelf
def Tryz.sortI_ren : Go.Shelf.Ren := ⟨fun | 6 => 144 | 15 => 149 | 14 => 148 | 28 => 157 | 29 => 158 | 20 => 130 | 21 => 150 | 22 => 151 | 23 => 152 | 24 => 153 | 25 => 154 | 26 => 155 | 27 => 156 | 46 => 159 | 47 => 160 | 48 => 161 | 49 => 162 | 50 => 163 | 57 => 164 | n => n, fun | 22 => 25 | 24 => 3 | 25 => 89 | 3 => 3 | 39 => 97 | 0 => 0 | 53 => 150 | 55 => 152 | 4 => 4 | 46 => 161 | 45 => 160 | 50 => 165 | 5 => 5 | 9 => 9 | 66 => 167 | 70 => 171 | 76 => 173 | 77 => 174 | n => n, fun | n => n⟩
theorem Tryz.sortI : Go.Proofs.SlLaysF.n6 Tryz.prog Tryz.sortI_ren := {
  mixed := by kernel_rfl
  f6 := ⟨Tryz.f144.name, by decide, Tryz.func144.trans (congrArg some (by kernel_rfl))⟩
  f14 := ⟨Tryz.f148.name, by decide, Tryz.func148.trans (congrArg some (by kernel_rfl))⟩
  f15 := Tryz.func149.trans (congrArg some (by kernel_rfl))
  f20 := ⟨Tryz.f130.name, by decide, Tryz.func130.trans (congrArg some (by kernel_rfl))⟩
  f21 := ⟨Tryz.f150.name, by decide, Tryz.func150.trans (congrArg some (by kernel_rfl))⟩
  f22 := ⟨Tryz.f151.name, by decide, Tryz.func151.trans (congrArg some (by kernel_rfl))⟩
  f23 := ⟨Tryz.f152.name, by decide, Tryz.func152.trans (congrArg some (by kernel_rfl))⟩
  f24 := ⟨Tryz.f153.name, by decide, Tryz.func153.trans (congrArg some (by kernel_rfl))⟩
  f25 := ⟨Tryz.f154.name, by decide, Tryz.func154.trans (congrArg some (by kernel_rfl))⟩
  f26 := ⟨Tryz.f155.name, by decide, Tryz.func155.trans (congrArg some (by kernel_rfl))⟩
  f27 := ⟨Tryz.f156.name, by decide, Tryz.func156.trans (congrArg some (by kernel_rfl))⟩
  f28 := Tryz.func157.trans (congrArg some (by kernel_rfl))
  f29 := Tryz.func158.trans (congrArg some (by kernel_rfl))
  f46 := ⟨Tryz.f159.name, by decide, Tryz.func159.trans (congrArg some (by kernel_rfl))⟩
  f47 := Tryz.func160.trans (congrArg some (by kernel_rfl))
  f48 := Tryz.func161.trans (congrArg some (by kernel_rfl))
  f49 := ⟨Tryz.f162.name, by decide, Tryz.func162.trans (congrArg some (by kernel_rfl))⟩
  f50 := ⟨Tryz.f163.name, by decide, Tryz.func163.trans (congrArg some (by kernel_rfl))⟩
  f57 := ⟨Tryz.f164.name, by decide, Tryz.func164.trans (congrArg some (by kernel_rfl))⟩
  t0 := Tryz.underlying0
  a0 := Tryz.isAgg0
  z0 := Tryz.sizeOf0
  v0 := Tryz.zeroValue0
  t3 := Tryz.underlying3
  a3 := Tryz.isAgg3
  z3 := Tryz.sizeOf3
  v3 := Tryz.zeroValue3
  t4 := Tryz.underlying4
  a4 := Tryz.isAgg4
  z4 := Tryz.sizeOf4
  v4 := Tryz.zeroValue4
  t5 := Tryz.underlying5
  a5 := Tryz.isAgg5
  z5 := Tryz.sizeOf5
  v5 := Tryz.zeroValue5
  t9 := Tryz.underlying9
  a9 := Tryz.isAgg9
  z9 := Tryz.sizeOf9
  v9 := Tryz.zeroValue9
  t22 := Tryz.underlying25
  a22 := Tryz.isAgg25
  z22 := Tryz.sizeOf25
  v22 := Tryz.zeroValue25
  a24 := Tryz.isAgg3
  z24 := Tryz.sizeOf3
  t25 := Tryz.underlying89
  a25 := Tryz.isAgg89
  z25 := Tryz.sizeOf89
  v25 := Tryz.zeroValue89
  t39 := Tryz.underlying97
  a39 := Tryz.isAgg97
  z39 := Tryz.sizeOf97
  v39 := Tryz.zeroValue97
  t45 := Tryz.underlying160
  a45 := Tryz.isAgg160
  z45 := Tryz.sizeOf160
  v45 := Tryz.zeroValue160
  t46 := Tryz.underlying161
  a46 := Tryz.isAgg161
  z46 := Tryz.sizeOf161
  v46 := Tryz.zeroValue161
  t50 := Tryz.underlying165
  a50 := Tryz.isAgg165
  z50 := Tryz.sizeOf165
  v50 := Tryz.zeroValue165
  t53 := Tryz.underlying150
  a53 := Tryz.isAgg150
  z53 := Tryz.sizeOf150
  v53 := Tryz.zeroValue150
  t55 := Tryz.underlying152
  a55 := Tryz.isAgg152
  z55 := Tryz.sizeOf152
  v55 := Tryz.zeroValue152
  t66 := Tryz.underlying167
  a66 := Tryz.isAgg167
  z66 := Tryz.sizeOf167
  v66 := Tryz.zeroValue167
  t70 := Tryz.underlying171
  a70 := Tryz.isAgg171
  z70 := Tryz.sizeOf171
  v70 := Tryz.zeroValue171
  t76 := Tryz.underlying173
  a76 := Tryz.isAgg173
  z76 := Tryz.sizeOf173
  v76 := Tryz.zeroValue173
  t77 := Tryz.underlying174
  a77 := Tryz.isAgg174
  z77 := Tryz.sizeOf174
  v77 := Tryz.zeroValue174 }
end Go.Proofs
/-
  SortedDown of the program: slices.SortedFunc over slices.Values.
-/
namespace Go.Proofs.YtpfaaglaeholbaaGreat
open Go.RowKit

/-- cmp.Compare on integers. -/
def cmpI (x y : Int) : Int := if x < y then -1 else if y < x then 1 else 0
theorem cmpI_neg (x y : Int) : (cmpI x y < 0) = (x < y) := by
  unfold cmpI
  by_cases h1 : x < y
  · rw [if_pos h1]; simp [h1]
  · rw [if_neg h1]
    by_cases h2 : y < x
    · rw [if_pos h2]; simp; omega
    · rw [if_neg h2]; simp; omega
theorem isNaN_any (x : Int) (w : World) : Calls Tryz.prog 112 #[.int .i64 x] w fun e w' => e = .returned (.bool false) ∧ w = w' := by
  go_enter Tryz.func112, Tryz.ntmps112
  go_wp2
  go_ret
  exact ⟨ret_bool (by simp), rfl⟩
set_option maxHeartbeats 400000 in
theorem compare_any (x y : Int) (w : World) : Calls Tryz.prog 72 #[.int .i64 x, .int .i64 y] w fun e w' => e = .returned (.int .i64 (cmpI x y)) ∧ w = w' := by
  have H1 := hide fun h : x < y => (show cmpI x y = -1 by rw [cmpI, if_pos h])
  have H2 := hide fun (h : ¬ x < y) (h2 : y < x) => (show cmpI x y = 1 by rw [cmpI, if_neg h, if_pos h2])
  have H3 := hide fun (h : ¬ x < y) (h2 : ¬ y < x) => (show cmpI x y = 0 by rw [cmpI, if_neg h, if_neg h2])
  by_cases h1 : x < y
  · rw [H1.out h1]
    go_enter Tryz.func72, Tryz.ntmps72
    go_wp2_with (first | (with_reducible refine (isNaN_any x _).mono ?_; rintro e w' ⟨rfl, rfl⟩) | (with_reducible refine (isNaN_any y _).mono ?_; rintro e w' ⟨rfl, rfl⟩))
    go_ret
    exact ⟨rfl, rfl⟩
  · by_cases h2 : y < x
    · rw [H2.out h1 h2]
      go_enter Tryz.func72, Tryz.ntmps72
      go_wp2_with (first | (with_reducible refine (isNaN_any x _).mono ?_; rintro e w' ⟨rfl, rfl⟩) | (with_reducible refine (isNaN_any y _).mono ?_; rintro e w' ⟨rfl, rfl⟩))
      go_ret
      exact ⟨rfl, rfl⟩
    · rw [H3.out h1 h2]
      go_enter Tryz.func72, Tryz.ntmps72
      go_wp2_with (first | (with_reducible refine (isNaN_any x _).mono ?_; rintro e w' ⟨rfl, rfl⟩) | (with_reducible refine (isNaN_any y _).mono ?_; rintro e w' ⟨rfl, rfl⟩))
      go_ret
      exact ⟨rfl, rfl⟩
theorem downCmp_any (x y : Int) (w : World) : Calls Tryz.prog 141 #[.int .i64 x, .int .i64 y] w fun e w' => e = .returned (.int .i64 (cmpI y x)) ∧ w = w' := by
  go_enter Tryz.func141, Tryz.ntmps141
  go_wp2_with ((with_reducible refine (compare_any y x _).mono ?_); rintro e w' ⟨rfl, rfl⟩)
  go_ret
  exact ⟨rfl, rfl⟩

def downC (x y : Int) : Int := cmpI y x
theorem downC_lt (x y : Int) : ltOf downC x y = decide (y < x) := by
  unfold ltOf downC; simp only [cmpI_neg]
theorem downC_swo : Go.Sort.SWO (ltOf downC) where
  irrefl x := by rw [downC_lt]; simp
  trans x y z h1 h2 := by rw [downC_lt] at *; simp at *; omega
  ntrans x y z h1 h2 := by rw [downC_lt] at *; simp at *; omega

/-- What the sort leaves of a slice that the call owns. -/
theorem own_sorted {w : World} {base E n g cap : Nat} {r : List Int} (s : List Int) (m : Nat) (os : Array Obj) (h : w.ownsRow base E 1 (.slice (some ⟨g, 0, none⟩) n cap) n (ints r)) (hs : s.length = n) :
    (sortWorld (Value.int .i64) w g 0 m s.toArray os).ownsRow base E 1 (.slice (some ⟨g, 0, none⟩) n cap) n (ints s) ∧ w.grownBy (sortWorld (Value.int .i64) w g 0 m s.toArray os) (some g) := by
  rcases h.2 with ⟨he, _⟩ | ⟨g', cap', cur, he, hbg, hg, hc, hm, hz, ht⟩
  · cases he
  cases he
  have hgl := (Array.getElem?_eq_some_iff.1 hg).1
  have hheap : (sortWorld (Value.int .i64) w g 0 m s.toArray os).heap = w.heap.modify g (Go.Sort.onCells (Go.Sort.putCells (Value.int .i64) 0 s.toArray)) ++ os := rfl
  have hsz : (w.heap.modify g (Go.Sort.onCells (Go.Sort.putCells (Value.int .i64) 0 s.toArray))).size = w.heap.size := Array.size_modify
  have hat : (sortWorld (Value.int .i64) w g 0 m s.toArray os).heap[g]? = some (.cells (Go.Sort.putCells (Value.int .i64) 0 s.toArray cur) E (0, 0)) := by
    rw [hheap, Array.getElem?_append_left (by rw [hsz]; exact hgl), Array.getElem?_modify, if_pos rfl, hg]; rfl
  refine ⟨⟨by rw [ints_len]; omega, .inr ⟨g, cap, _, rfl, hbg, hat, hc, hm, by rw [Go.Sort.putCells, Array.size_mapIdx]; exact hz, ?_⟩⟩, ⟨rfl, rfl, rfl, by rw [hheap, Array.size_append, hsz]; omega, fun k hk hne => ?_⟩⟩
  · apply List.ext_getElem
    · rw [List.length_take, Array.length_toList, Go.Sort.putCells, Array.size_mapIdx, ints_len]; omega
    · intro i h1 h2
      rw [ints_len] at h2
      have h3 := ints_at s i h2
      rw [List.getElem?_eq_getElem (by rw [ints_len]; exact h2)] at h3
      rw [Option.some.inj h3, List.getElem_take, Array.getElem_toList]
      simp only [Go.Sort.putCells, Array.getElem_mapIdx]
      rw [if_pos ⟨Nat.zero_le _, by simp; omega⟩]
      simp [h2]
  · rw [hheap, Array.getElem?_append_left (by rw [hsz]; exact hk), Array.getElem?_modify, if_neg (fun e => hne (by rw [e]))]

set_option maxHeartbeats 1000000 in
theorem sortFunc_any (base : Nat) (v : Value) (r : List Int) (w : World) (h : w.ownsRow base 3 1 v r.length (ints r)) (hr : r.length ≤ 2000000) (hb : base ≤ w.heap.size) :
    Calls Tryz.prog 144 #[v, .func (.func 141) #[] #[]] w fun e w' => e = .returned (.tuple #[]) ∧ w'.ownsRow base 3 1 v r.length (ints (sortD r)) ∧ Below base w w' := by
  by_cases h0 : r.length = 0
  · obtain rfl : r = [] := List.eq_nil_of_length_eq_zero h0
    obtain ⟨a, c, rfl⟩ := own_none h
    have hcon := AnyF.slices_SortFunc_none (P := Tryz.prog) (ρ := Tryz.sortI_ren) { Tryz.sortI with } a c (.func (.func 141) #[] #[]) w
    change Calls Tryz.prog 144 _ _ _ at hcon
    refine hcon.mono ?_
    rintro e w' ⟨rfl, rfl⟩
    exact ⟨rfl, by simpa [sortD] using h, Below.refl _ _⟩
  · obtain ⟨g, cap, rfl, hbg, hg, hc, hm, hcell, hfr⟩ := own_some h (by omega)
    have eg : ∀ args w, (callFunc 141 args).run Tryz.prog w = .ok (.enter 141 args) w := enters_of Tryz.func141 (by kernel_rfl) rfl
    have hcmp : CmpLays1 Tryz.prog 141 #[] (Value.int .i64) downC g 0 r.toArray.size w := fun m os dk _ x y =>
      (downCmp_any x y _).mono fun e w' ⟨he, hw⟩ => ⟨he, 0, #[], by rw [← hw, Go.Sort.grow_empty]; rfl⟩
    have hH : Go.Sort.Holds (Value.int .i64) w g 0 r.toArray := fun j hj => by
      have hj' : j < r.length := by simpa using hj
      rw [Nat.zero_add]
      exact ⟨by rw [hcell j hj', ints_at r j hj']; simp [hj'], hfr j⟩
    have hcon := Any.slices_SortFunc_total Tryz.sortI (Value.int .i64) (fun _ => rfl) downC downC_swo 141 #[] g 0 cap r.toArray w eg hcmp hH hg (by simp; omega)
      (fun x y h1 h2 => by rw [downC_lt] at h1 h2; simp at h1 h2; omega)
    change Calls Tryz.prog 144 _ _ _ at hcon
    rw [List.size_toArray] at hcon
    refine hcon.mono ?_
    rintro e w' ⟨rfl, m, os, rfl⟩
    have hs : (r.mergeSort fun x y => !ltOf downC y x) = sortD r := by
      rw [sortD]; congr 1; funext x y; rw [downC_lt]; by_cases hxy : x < y
      · rw [decide_eq_true hxy, decide_eq_false (by omega)]; rfl
      · rw [decide_eq_false hxy, decide_eq_true (by omega)]; rfl
    dsimp only
    rw [hs]
    obtain ⟨k1, k2⟩ := own_sorted (sortD r) m os h (sortD_len r)
    exact ⟨rfl, k1, (Below.refl _ _).grown k2 hb (fun k hk => by cases hk; exact hbg)⟩

theorem values_any (a : Option Addr) (n c : Nat) (w : World) :
    Calls Tryz.prog 140 #[.slice a n c] w fun e w' => e = .returned (.func (.func 145) #[] #[.pointer (some ⟨w.heap.size, 0, none⟩)]) ∧ w' = w.alloc (.cells #[.slice a n c] 25) := by
  go_enter Tryz.func140, Tryz.ntmps140
  go_wp2
  go_ret
  exact ⟨rfl, rfl⟩
set_option maxHeartbeats 400000 in
theorem sortedFunc_any (Bs : Nat) (v : Value) (r : List Int) (w : World) (hin : InRow w v r) (hr : r.length ≤ 2000000) (hB : Bs < w.heap.size) (hc : w.cell? ⟨Bs, 0, none⟩ = some v) :
    Calls Tryz.prog 139 #[.func (.func 145) #[] #[.pointer (some ⟨Bs, 0, none⟩)], .func (.func 141) #[] #[]] w (IntsRes (sortD r) w) := by
  have HX := hide (collectVals_any Bs v r w hin hr hB hc)
  clear hin hc
  go_enter Tryz.func139, Tryz.ntmps139
  go_wp2_with fail
  refine HX.out.mono ?_
  rintro e w1 ⟨u, rfl, ho, hb⟩
  have HS := hide (sortFunc_any w.heap.size u r w1 ho hr hb.size)
  have HB := hide hb
  clear ho hb
  go_wp2_with fail
  refine HS.out.mono ?_
  rintro e w2 ⟨rfl, ho, hb⟩
  have HO := hide ho; have HB2 := hide (HB.out.trans hb)
  clear ho hb
  go_wp2
  go_ret
  exact ⟨_, rfl, by rw [sortD_len]; exact HO.out, HB2.out⟩
set_option maxHeartbeats 400000 in
theorem implSortedDown_any (v : Value) (l : List Int) (w : World) (hin : InRow w v l) (hl : l.length ≤ 1048576) :
    Calls Tryz.prog 126 #[v] w (IntsRes (sortD l) w) := by
  have hb := (Below.refl w.heap.size w).alloc (Nat.le_refl _) (.cells #[v] 25)
  have HX := hide (sortedFunc_any w.heap.size v l _ (inRow_below hin hb) (by omega) (by simp) (show (w.alloc (.cells #[v] 25)).cell? ⟨w.heap.size, 0, none⟩ = some v by simp [World.cell?_alloc_new]))
  have HB := hide hb
  obtain ⟨a, c, rfl, -, -⟩ := hin
  clear hb
  go_enter Tryz.func126, Tryz.ntmps126
  go_wp2_with fail
  refine (values_any a _ c _).mono ?_
  rintro e w1 ⟨rfl, rfl⟩
  go_wp2_with fail
  refine HX.out.mono ?_
  rintro e w2 ⟨u, rfl, ho, hb⟩
  have HO := hide (own_base ho HB.out.size); have HB2 := hide (HB.out.trans (hb.mono HB.out.size))
  clear ho hb
  go_wp2
  go_ret
  exact ⟨_, rfl, HO.out, HB2.out⟩
end Go.Proofs.YtpfaaglaeholbaaGreat
/-
  The bounds of chapter 5: slack, isBroken, and the comparison by slack.
-/
namespace Go.Proofs.YtpfaaglaeholbaaGreat
open Go.RowKit

/-- A bound in a variable. -/
def BoundAt (w : World) (g : Nat) (s m : Int) : Prop := w.heap[g]? = some (.cells #[.int .i64 s, .int .i64 m] 129 (0, 0))
theorem boundAt_below {w w' : World} {g : Nat} {s m : Int} (h : BoundAt w g s m) (hb : Below w.heap.size w w') : BoundAt w' g s m := by
  unfold BoundAt; rw [hb.block g (Array.getElem?_eq_some_iff.1 h).1]; exact h
theorem boundAt_cells {w : World} {g : Nat} {s m : Int} (h : BoundAt w g s m) : w.cell? ⟨g, 0, none⟩ = some (.int .i64 s) ∧ w.cell? ⟨g, 1, none⟩ = some (.int .i64 m) :=
  ⟨by rw [cell_of_row w g 0 _ _ _ h]; rfl, by rw [cell_of_row w g 1 _ _ _ h]; rfl⟩
theorem boundAt_frozen {w : World} {g : Nat} {s m : Int} (h : BoundAt w g s m) : w.frozen? ⟨g, 0, none⟩ = false ∧ w.frozen? ⟨g, 1, none⟩ = false := by
  unfold BoundAt at h
  simp [World.frozen?, h]
theorem Tryz.sizeBound : (Tryz.prog.info? 129).map (·.size) = some 2 := by kernel_rfl
theorem wpList_loadBound {ops : Array Oper} {rest : List Oper} {o : Oper} {a : Act} {Q : Exit → Act → World → Prop} {W : World} {g : Nat} {s m : Int} (hb : BoundAt W g s m)
    (hgd : o.guard = none) (x : Operand) (ho : o.op = .load 129 x) (hx : a.eval x = .pointer (some ⟨g, 0, none⟩))
    (h : wpList Tryz.prog ops Q rest (a.put o.dst (.agg #[.int .i64 s, .int .i64 m])) W) : wpList Tryz.prog ops Q (o :: rest) a W :=
  wpList_load_row hgd _ x ho g hx _ _ (0, 0) _ hb Tryz.underlying129 rfl Tryz.sizeBound h

set_option maxHeartbeats 400000 in
theorem slack_any (s m : Int) (w : World) (hs : 0 ≤ s ∧ s ≤ 25) (hm : 0 ≤ m ∧ m ≤ 25) :
    Calls Tryz.prog 129 #[.agg #[.int .i64 s, .int .i64 m]] w fun e w' => e = .returned (.int .i64 (m - s)) ∧ GrownW w w' := by
  obtain ⟨s1, s2⟩ := hs
  obtain ⟨m1, m2⟩ := hm
  go_enter Tryz.func129, Tryz.ntmps129
  go_wp2
  go_ret
  exact ⟨rfl, grownW_alloc _ _⟩
set_option maxHeartbeats 400000 in
theorem isBroken_any (s m : Int) (w : World) (hs : 0 ≤ s ∧ s ≤ 25) (hm : 0 ≤ m ∧ m ≤ 25) :
    Calls Tryz.prog 110 #[.agg #[.int .i64 s, .int .i64 m]] w fun e w' => e = .returned (.bool (decide (m - s < 0))) ∧ Below w.heap.size w w' := by
  have HG := hide (show BoundAt (w.alloc (.cells #[.int .i64 s, .int .i64 m] 129)) w.heap.size s m from heap_alloc_new w _)
  have HSL := hide fun w => slack_any s m w hs hm
  go_enter Tryz.func110, Tryz.ntmps110
  go_wp2_with (first | (with_reducible refine wpList_loadBound HG.out rfl _ rfl rfl ?_) | ((with_reducible refine (HSL.out _).mono ?_); rintro e w1 ⟨rfl, hg⟩; have HB := hide (grownW_below (grownW_trans (grownW_alloc _ _) hg)); clear hg))
  go_ret
  exact ⟨rfl, HB.out⟩
theorem load_bound {w : World} {g : Nat} {s m : Int} (h : BoundAt w g s m) (n : Nat) (os : Array Obj) : BoundAt (Go.Sort.grow (w.drewN n) os) g s m := boundAt_below h (grownW_below ⟨n, os, rfl⟩)
end Go.Proofs.YtpfaaglaeholbaaGreat
/-
  boundsOf: the sums of the greatest columns, and the most that they can have.
-/
namespace Go.Proofs.YtpfaaglaeholbaaGreat
open Go.RowKit

/-- The slice v reads as r, and lies in a block with room for it. -/
def RowAt (w : World) (v : Value) (r : List Int) : Prop :=
  ∃ g c, v = .slice (some ⟨g, 0, none⟩) r.length c ∧ r.length ≤ c ∧ c ≤ maxLen ∧ g < w.heap.size ∧ ∀ i, (h : i < r.length) → w.cell? ⟨g, i, none⟩ = some (.int .i64 r[i])
theorem rowAt_below {w w' : World} {v : Value} {r : List Int} (h : RowAt w v r) (hb : Below w.heap.size w w') : RowAt w' v r := by
  obtain ⟨g, c, hv, h1, h2, hg, hc⟩ := h
  exact ⟨g, c, hv, h1, h2, Nat.lt_of_lt_of_le hg hb.size, fun i hi => below_cell hb hg (hc i hi)⟩
theorem rowAt_own {w : World} {base : Nat} {v : Value} {r : List Int} (h : w.ownsRow base 3 1 v r.length (ints r)) (hn : 0 < r.length) : RowAt w v r := by
  obtain ⟨g, c, rfl, -, hg, h1, h2, hc, -⟩ := own_some h hn
  exact ⟨g, c, rfl, h1, h2, hg, fun i hi => by rw [hc i hi, ints_at r i hi]⟩
theorem rowAt_take {w : World} {g n c k : Nat} {r : List Int} (h : RowAt w (.slice (some ⟨g, 0, none⟩) n c) r) (hk : k ≤ r.length) : InRow w (.slice (some ⟨g, 0, none⟩) k c) (r.take k) := by
  obtain ⟨g', c', he, h1, h2, hg, hc⟩ := h
  cases he
  have hl : (r.take k).length = k := by rw [List.length_take]; omega
  refine ⟨_, c, by rw [hl], by omega, .inr ⟨g, 0, rfl, hg, fun i hi => ?_⟩⟩
  rw [Nat.zero_add, List.getElem_take]; exact hc i (by omega)
theorem small_take {r : List Int} (h : SmallL r) (k : Nat) : SmallL (r.take k) :=
  ⟨by have := h.1; rw [List.length_take]; omega, fun i hi => by rw [List.getElem_take]; exact h.2 i (by rw [List.length_take] at hi; omega)⟩
theorem small_sum {r : List Int} (h : SmallL r) (k : Nat) : 0 ≤ (r.take k).sum ∧ (r.take k).sum ≤ 25 := by
  have h1 := sum_small (small_take h k) _ (Nat.le_refl _)
  rw [List.take_length] at h1
  have h2 := (small_take h k).1
  omega

/-- Bounds lie one behind the other. -/
def InBounds (w : World) (v : Value) (bs : List (Int × Int)) : Prop :=
  ∃ g c, v = .slice (some ⟨g, 0, none⟩) bs.length c ∧ bs.length ≤ c ∧ g < w.heap.size ∧ ∀ i, (h : i < bs.length) → w.cell? ⟨g, i * 2, none⟩ = some (.int .i64 bs[i].1) ∧ w.cell? ⟨g, i * 2 + 1, none⟩ = some (.int .i64 bs[i].2)
theorem inBounds_below {w w' : World} {v : Value} {bs : List (Int × Int)} (h : InBounds w v bs) (hb : Below w.heap.size w w') : InBounds w' v bs := by
  obtain ⟨g, c, hv, hc1, hg, hc⟩ := h
  exact ⟨g, c, hv, hc1, Nat.lt_of_lt_of_le hg hb.size, fun i hi => ⟨below_cell hb hg (hc i hi).1, below_cell hb hg (hc i hi).2⟩⟩
theorem own_below2 {w w' : World} {base e n z : Nat} {v : Value} {xs : List Value} (h : w.ownsRow base e z v n xs) (hb : Below w.heap.size w w') : w'.ownsRow base e z v n xs := by
  refine ⟨h.1, ?_⟩
  rcases h.2 with hn | ⟨g, cap, cur, hv, hbg, hg, r⟩
  · exact .inl hn
  · exact .inr ⟨g, cap, cur, hv, hbg, by rw [hb.block g (Array.getElem?_eq_some_iff.1 hg).1]; exact hg, r⟩
theorem own2_cell {w : World} {base e n z g c j : Nat} {xs : List Value} (h : w.ownsRow base e z (.slice (some ⟨g, 0, none⟩) n c) n xs) (hj : j < n * z) : ∃ y, w.cell? ⟨g, j, none⟩ = some y := by
  have := h.1
  exact ⟨xs[j], by rw [h.cellAt j hj, List.getElem?_eq_getElem (by omega)]⟩
def tabB (n : Nat) (S C : List Int) : List (Int × Int) := (List.range n).map fun k => ((S.take (k + 1)).sum, (C.take (k + 1)).sum)
theorem tabB_len (n : Nat) (S C : List Int) : (tabB n S C).length = n := by simp [tabB]
theorem tabB_at {n : Nat} {S C : List Int} {i : Nat} (h : i < (tabB n S C).length) : (tabB n S C)[i] = ((S.take (i + 1)).sum, (C.take (i + 1)).sum) := by simp [tabB]

theorem exec_storeBound {ρ : Operand → Value} {o : Oper} {w : World} {x y : Operand} {p : Nat} {s m u v : Int} (ho : o.op = .store 129 x y) (hx : ρ x = .pointer (some ⟨p, 0, none⟩)) (hy : ρ y = .agg #[.int .i64 s, .int .i64 m])
    (h1 : w.cell? ⟨p, 0, none⟩ = some (.int .i64 u)) (h2 : w.cell? ⟨p, 1, none⟩ = some (.int .i64 v)) (f1 : w.frozen? ⟨p, 0, none⟩ = false) (f2 : w.frozen? ⟨p, 1, none⟩ = false) :
    (execOp ρ o).run Tryz.prog w = .ok .skip ((w.setCell ⟨p, 0, none⟩ (.int .i64 s)).setCell ⟨p, 1, none⟩ (.int .i64 m)) := by
  unfold execOp
  simp only [ho, hx, hy]
  go_simp

set_option maxRecDepth 100000 in
set_option maxHeartbeats 2000000 in
theorem boundAtK_any (S C : List Int) (v1 v2 : Value) (q1 q2 k : Nat) (w : World) (h1 : RowAt w v1 S) (h2 : RowAt w v2 C) (hq1 : q1 < w.heap.size) (hq2 : q2 < w.heap.size) (hc1 : w.cell? ⟨q1, 0, none⟩ = some v1) (hc2 : w.cell? ⟨q2, 0, none⟩ = some v2) (hs : SmallL S) (hs2 : SmallL C) (hk1 : k ≤ S.length) (hk2 : k ≤ C.length) :
    Calls Tryz.prog 128 #[.int .i64 k, .pointer (some ⟨q1, 0, none⟩), .pointer (some ⟨q2, 0, none⟩)] w fun e w' => e = .returned (.agg #[.int .i64 (S.take k).sum, .int .i64 (C.take k).sum]) ∧ Below w.heap.size w w' := by
  obtain ⟨W, hW⟩ : ∃ W, W = w.alloc (.cells #[.int .i64 0, .int .i64 0] 129) := ⟨_, rfl⟩
  have hb : Below w.heap.size w W := by rw [hW]; exact (Below.refl _ _).alloc (Nat.le_refl _) _
  have hr1 := rowAt_below h1 hb; have hr2 := rowAt_below h2 hb
  have hcw1 := below_cell hb hq1 hc1; have hcw2 := below_cell hb hq2 hc2
  have hba : BoundAt W w.heap.size 0 0 := by rw [hW]; exact heap_alloc_new w _
  obtain ⟨g1, c1, rfl, hl1, hm1, -, -⟩ := h1
  obtain ⟨g2, c2, rfl, hl2, hm2, -, -⟩ := h2
  unfold maxLen at hm1 hm2
  have HT1 := hide (inRow_below (rowAt_take hr1 hk1) (below_drew (Below.refl _ W))); have HT2 := hide (inRow_below (rowAt_take hr2 hk2) (below_drew (Below.refl _ W)))
  have HM1 := hide (small_take hs k); have HM2 := hide (small_take hs2 k)
  have HB := hide hb; have HW := hide hW; have HBA := hide hba
  obtain ⟨s, hs'⟩ : ∃ s, s = (S.take k).sum := ⟨_, rfl⟩
  obtain ⟨m, hm'⟩ : ∃ m, m = (C.take k).sum := ⟨_, rfl⟩
  have HSS := hide hs'; have HMM := hide hm'
  rw [← hs', ← hm']
  obtain ⟨n1, hn1⟩ : ∃ n, n = S.length := ⟨_, rfl⟩
  obtain ⟨n2, hn2⟩ : ∃ n, n = C.length := ⟨_, rfl⟩
  rw [← hn1] at hl1 hk1 hcw1
  rw [← hn2] at hl2 hk2 hcw2
  clear hW hb hr1 hr2 hc1 hc2 hba hs hs2 hs' hm' hn1 hn2
  go_enter Tryz.func128, Tryz.ntmps128
  go_wp2
  rw [← HW.out]
  obtain ⟨fs, hfs⟩ : ∃ fs : List FactP, fs = [isV (.slice (some ⟨g1, 0, none⟩) n1 c1), isV (.int .i64 k), isV (.slice (some ⟨g1, 0, none⟩) k c1), isV (.int .i64 s), isV (.slice (some ⟨g2, 0, none⟩) n2 c2), isV (.int .i64 k), isV (.slice (some ⟨g2, 0, none⟩) k c2), isV (.int .i64 m), isV (.agg #[.int .i64 s, .int .i64 m])] := ⟨_, rfl⟩
  have hst : ∀ f ∈ fs, StableP f := by
    rw [hfs]; intro f hf
    simp only [List.mem_cons, List.not_mem_nil, or_false] at hf
    rcases hf with rfl | rfl | rfl | rfl | rfl | rfl | rfl | rfl | rfl <;> exact stable_v _
  subst hfs
  refine wp_region_tail (S := fun w2 => w2 = W.drew) [isV (.slice (some ⟨g1, 0, none⟩) n1 c1), isV (.int .i64 k), isV (.slice (some ⟨g1, 0, none⟩) k c1), isV (.int .i64 s), isV (.slice (some ⟨g2, 0, none⟩) n2 c2), isV (.int .i64 k), isV (.slice (some ⟨g2, 0, none⟩) k c2), isV (.int .i64 m), isV (.agg #[.int .i64 s, .int .i64 m])] [(0, .int .i64 k), (1, .pointer (some ⟨q1, 0, none⟩)), (2, .pointer (some ⟨q2, 0, none⟩))] _ _ 9 (by kernel_rfl) rfl rfl (by kernel_rfl) (by kernel_rfl) rfl (by kernel_rfl) ?base rfl ?ob rfl ?fin
  case base =>
    intro t v ht
    simp only [List.lookup_cons, List.lookup_nil] at ht
    repeat' split at ht
    all_goals first | (cases ht; done) | (obtain rfl := Option.some.inj ht; rename_i hh; obtain rfl := eq_of_beq hh; rfl)
  case ob =>
    exact ⟨obt_one (.slice (some ⟨g1, 0, none⟩) n1 c1) rfl rfl (srt_b 1 rfl) (fun ρ w2 hS hx => by subst hS; go_simp),
      obt_move (.int .i64 k) rfl rfl rfl (srt_b 0 rfl),
      obt_two (.slice (some ⟨g1, 0, none⟩) k c1) rfl rfl (srt_j 0 rfl (by kernel_rfl) rfl) (srt_j 1 rfl (by kernel_rfl) rfl) (fun ρ w2 hS hx hy => by go_simp; omega),
      obt_call hst [.slice (some ⟨g1, 0, none⟩) k c1] rfl Tryz.func107 (by kernel_rfl) (by kernel_rfl) rfl ⟨(srt_j 2 rfl (by kernel_rfl) rfl), trivial⟩ (fun w2 hS => by subst hS; exact (totalOf_any _ _ _ HT1.out HM1.out).mono fun e w3 hh => ⟨_, hh.1, hh.2.symm, hh.2 ▸ Below.refl _ _, by rw [← HSS.out]; rfl⟩),
      obt_one (.slice (some ⟨g2, 0, none⟩) n2 c2) rfl rfl (srt_b 2 rfl) (fun ρ w2 hS hx => by subst hS; go_simp),
      obt_move (.int .i64 k) rfl rfl rfl (srt_b 0 rfl),
      obt_two (.slice (some ⟨g2, 0, none⟩) k c2) rfl rfl (srt_j 4 rfl (by kernel_rfl) rfl) (srt_j 5 rfl (by kernel_rfl) rfl) (fun ρ w2 hS hx hy => by go_simp; omega),
      obt_call hst [.slice (some ⟨g2, 0, none⟩) k c2] rfl Tryz.func107 (by kernel_rfl) (by kernel_rfl) rfl ⟨(srt_j 6 rfl (by kernel_rfl) rfl), trivial⟩ (fun w2 hS => by subst hS; exact (totalOf_any _ _ _ HT2.out HM2.out).mono fun e w3 hh => ⟨_, hh.1, hh.2.symm, hh.2 ▸ Below.refl _ _, by rw [← HMM.out]; rfl⟩),
      obt_two (.agg #[.int .i64 s, .int .i64 m]) rfl rfl (srt_j 3 rfl (by kernel_rfl) rfl) (srt_j 7 rfl (by kernel_rfl) rfl) (fun ρ w2 hS hx hy => by go_simp),
      trivial⟩
  case fin =>
    intro a' w' h1 h2 h3 hS h4 K hK
    subst hS
    have hcs := boundAt_cells HBA.out
    have hfz := boundAt_frozen HBA.out
    have v4 : a'.tmps.getD 4 undef = .pointer (some ⟨w.heap.size, 0, none⟩) := h3 4 (by kernel_rfl)
    have v13 : a'.tmps.getD 13 undef = .agg #[.int .i64 s, .int .i64 m] := h4 8 13 rfl (by decide)
    refine run_skip (exec_storeBound (s := s) (m := m) rfl v4 v13 hcs.1 hcs.2 hfz.1 hfz.2) (hK undef _ ?_)
    have ha : a' = ⟨List.toArray [.int .i64 k, .pointer (some ⟨q1, 0, none⟩), .pointer (some ⟨q2, 0, none⟩), undef, .pointer (some ⟨w.heap.size, 0, none⟩), .slice (some ⟨g1, 0, none⟩) n1 c1, .int .i64 k, .slice (some ⟨g1, 0, none⟩) k c1, .int .i64 s, .slice (some ⟨g2, 0, none⟩) n2 c2, .int .i64 k, .slice (some ⟨g2, 0, none⟩) k c2, .int .i64 m, .agg #[.int .i64 s, .int .i64 m]], []⟩ := frame_eq _ h1 h2 ⟨(h3 0 (by kernel_rfl)), (h3 1 (by kernel_rfl)), (h3 2 (by kernel_rfl)), (h3 3 (by kernel_rfl)), (h3 4 (by kernel_rfl)), (h4 0 5 rfl (by decide)), (h4 1 6 rfl (by decide)), (h4 2 7 rfl (by decide)), (h4 3 8 rfl (by decide)), (h4 4 9 rfl (by decide)), (h4 5 10 rfl (by decide)), (h4 6 11 rfl (by decide)), (h4 7 12 rfl (by decide)), (h4 8 13 rfl (by decide)), trivial⟩
    have hp : a'.put none undef = a' := rfl
    refine (congrArg (fun q => Exit.then _ _ Exit.normal q _) (hp.trans ha)).mpr ?_
    have d1 : ((W.drew.setCell ⟨w.heap.size, 0, none⟩ (.int .i64 s)).setCell ⟨w.heap.size, 1, none⟩ (.int .i64 m)).cell? ⟨w.heap.size, 0, none⟩ = some (.int .i64 s) := by
      rw [World.cell?_setCell_other _ _ _ _ (by simp)]; exact World.cell?_setCell_same' _ _ _ (by rw [show W.drew.cell? ⟨w.heap.size, 0, none⟩ = _ from hcs.1]; rfl)
    have d2 : ((W.drew.setCell ⟨w.heap.size, 0, none⟩ (.int .i64 s)).setCell ⟨w.heap.size, 1, none⟩ (.int .i64 m)).cell? ⟨w.heap.size, 1, none⟩ = some (.int .i64 m) := by
      exact World.cell?_setCell_same' _ _ _ (by rw [World.cell?_setCell_other _ _ _ _ (by simp), show W.drew.cell? ⟨w.heap.size, 1, none⟩ = _ from hcs.2]; rfl)
    have HBE := hide ((((below_drew HB.out).setCell (p := ⟨w.heap.size, 0, none⟩) (Nat.le_refl _) (.int .i64 s)).setCell (p := ⟨w.heap.size, 1, none⟩) (Nat.le_refl _) (.int .i64 m)))
    clear hst h1 h2 h3 h4 hK ha hp v4 v13 hcs hfz
    generalize (W.drew.setCell ⟨w.heap.size, 0, none⟩ (.int .i64 s)).setCell ⟨w.heap.size, 1, none⟩ (.int .i64 m) = w9 at d1 d2 HBE ⊢
    go_wp2
    exact bodyPost_ret (v := .agg #[.int .i64 s, .int .i64 m]) (by simp [results, Tryz.results128, go_sem, d1, d2]) rfl ⟨rfl, HBE.out⟩

theorem Tryz.infoBound : (Tryz.prog.info? 129).map (fun i => (i.zero, i.size, i.bytes)) = some (some (.agg #[.int .i64 0, .int .i64 0]), 2, 16) := by kernel_rfl
/-- The first k bounds are written. -/
def Filled (xs : List Value) (S C : List Int) (k : Nat) : Prop := ∀ i, i < k → xs[i * 2]? = some (.int .i64 (S.take (i + 1)).sum) ∧ xs[i * 2 + 1]? = some (.int .i64 (C.take (i + 1)).sum)
theorem filled_step {xs : List Value} {S C : List Int} {k n : Nat} (h : Filled xs S C k) (hl : xs.length = n * 2) (hk : k < n) {s m : Int} (hs : s = (S.take (k + 1)).sum) (hm : m = (C.take (k + 1)).sum) : Filled ((xs.set (k * 2) (.int .i64 s)).set (k * 2 + 1) (.int .i64 m)) S C (k + 1) := fun i hi => by
  by_cases e : i = k
  · subst e
    exact ⟨by rw [List.getElem?_set_ne (by omega), List.getElem?_set_self (by omega), hs], by rw [List.getElem?_set_self (by rw [List.length_set]; omega), hm]⟩
  · obtain ⟨h1, h2⟩ := h i (by omega)
    exact ⟨by rw [List.getElem?_set_ne (by omega), List.getElem?_set_ne (by omega)]; exact h1, by rw [List.getElem?_set_ne (by omega), List.getElem?_set_ne (by omega)]; exact h2⟩
def BoundsRes (bs : List (Int × Int)) (w : World) (e : Ending) (w' : World) : Prop := ∃ v, e = .returned v ∧ InBounds w' v bs ∧ Below w.heap.size w w'
set_option maxHeartbeats 2000000 in
theorem collectBound_any (S C : List Int) (v1 v2 : Value) (q1 q2 n : Nat) (w : World) (h1 : RowAt w v1 S) (h2 : RowAt w v2 C) (hq1 : q1 < w.heap.size) (hq2 : q2 < w.heap.size) (hc1 : w.cell? ⟨q1, 0, none⟩ = some v1) (hc2 : w.cell? ⟨q2, 0, none⟩ = some v2) (hs : SmallL S) (hs2 : SmallL C) (hS : S.length = n) (hC : C.length = n) (hn : n ≤ 5) :
    Calls Tryz.prog 127 #[.int .i64 n, .func (.func 128) #[] #[.pointer (some ⟨q1, 0, none⟩), .pointer (some ⟨q2, 0, none⟩)]] w (BoundsRes (tabB n S C) w) := by
  obtain ⟨i0, hi, hz0, hz1, hz2⟩ := info_parts Tryz.infoBound
  have HCALL := hide fun (w' : World) (k : Nat) (hb : Below w.heap.size w w') (hk : k ≤ n) => boundAtK_any S C v1 v2 q1 q2 k w' (rowAt_below h1 hb) (rowAt_below h2 hb) (Nat.lt_of_lt_of_le hq1 hb.size) (Nat.lt_of_lt_of_le hq2 hb.size) (below_cell hb hq1 hc1) (below_cell hb hq2 hc2) hs hs2 (by omega) (by omega)
  clear h1 h2 hq1 hq2 hc1 hc2 hs hs2 hS hC
  go_enter Tryz.func127, Tryz.ntmps127
  go_wp2_with (at_make; refine wpList_make_full _ rfl _ _ _ rfl w.heap.size 129 i0 _ 2 Tryz.underlying127 hi hz0 hz1 .i64 .i64 n n n rfl rfl rfl rfl (by rw [hz2]; omega) (by unfold maxLen; omega) (Nat.le_refl _) ?_; intro w1 ho hg)
  have HO : Hid (∃ xs, w1.ownsRow w.heap.size 129 2 (.slice (some ⟨w.heap.size, 0, none⟩) n n) n xs ∧ Filled xs S C 0) := hide ⟨_, ho, fun i hi => absurd hi (Nat.not_lt_zero _)⟩
  have HB := hide (grown_below hg (fun k hk => by cases hk) (Nat.le_refl w.heap.size))
  clear ho hg hz0 hz1 hz2 hi
  go_wp2
  go_loopw [10] (fun i w' => ∃ k : Nat, k ≤ n ∧ i = .int .i64 k ∧ (∃ xs, w'.ownsRow w.heap.size 129 2 (.slice (some ⟨w.heap.size, 0, none⟩) n n) n xs ∧ Filled xs S C k) ∧ Below w.heap.size w w') (fun i _ => n - (intOf i).toNat)
  case atStart => exact ⟨0, Nat.zero_le _, rfl, HO.out, HB.out⟩
  case round =>
    clear HO HB
    obtain ⟨k, hk, rfl, ⟨xs, ho, hf⟩, hb⟩ := hrel
    have HO := hide ho; have HF := hide hf; have HB := hide hb
    clear ho hf hb
    by_cases hlt : k < n
    · have HCK := hide (HCALL.out wr (k + 1) HB.out (by omega))
      obtain ⟨s, hs⟩ : ∃ s, s = (S.take (k + 1)).sum := ⟨_, rfl⟩
      obtain ⟨m, hm⟩ : ∃ m, m = (C.take (k + 1)).sum := ⟨_, rfl⟩
      rw [← hs, ← hm] at HCK
      have HFS := hide (filled_step HF.out HO.out.1 hlt hs hm)
      clear hs hm
      go_wp2_with (go_at_call 128; refine HCK.out.mono ?_; rintro e w9 ⟨rfl, hb9⟩; have HO9 := hide (own_below2 HO.out hb9); have HB9 := hide (HB.out.trans (hb9.mono HB.out.size)); clear hb9; obtain ⟨y1, hy1⟩ := own2_cell HO9.out (show k * 2 < n * 2 by omega); obtain ⟨y2, hy2⟩ := own2_cell HO9.out (show k * 2 + 1 < n * 2 by omega); have hf1 := HO9.out.frozenAt (k * 2); have hf2 := HO9.out.frozenAt (k * 2 + 1))
      go_roundw
      case rel => exact ⟨k + 1, by omega, by go_num, ⟨_, ((HO9.out.stored (k * 2) (.int .i64 s)).1.stored (k * 2 + 1) (.int .i64 m)).1, HFS.out⟩, (HB9.out.setCell (p := ⟨w.heap.size, k * 2, none⟩) (Nat.le_refl _) _).setCell (p := ⟨w.heap.size, k * 2 + 1, none⟩) (Nat.le_refl _) _⟩
      case measure => simp [intOf]; omega
    · obtain rfl : k = n := by omega
      go_wp2
      go_ret
      refine ⟨_, rfl, ⟨w.heap.size, k, by rw [tabB_len]; rfl, by rw [tabB_len]; exact Nat.le_refl _, (HO.out.lt _ rfl).2, fun i hi => ?_⟩, HB.out⟩
      rw [tabB_at hi]
      rw [tabB_len] at hi
      obtain ⟨f1, f2⟩ := HF.out i hi
      exact ⟨by rw [HO.out.cellAt _ (by omega)]; exact f1, by rw [HO.out.cellAt _ (by omega)]; exact f2⟩
end Go.Proofs.YtpfaaglaeholbaaGreat
