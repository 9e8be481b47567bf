/-
  Texts of this claim, one behind the other: Visit, PathL, App, AppS, OwnS, LawsW.
-/
import Derived.Test.YtcliiefedmiokaaPackN
import Derived.WalkMore
import Derived.Deep.LoopGhost
import Derived.Test.YtcliiefedmiokaaPackL
import Derived.Test.YtcliiefedmiokaaPackA
/-
  l06Visit of the model: a search in breadth over two lists.
-/
namespace Go.Proofs.Ytcliiefedmiokaa
open Go.RowKit

theorem visit_start {w w1 : World} {u : Value} {m : List (List Int)} (hu : OwnMat w1 w.heap.size w1.heap.size u m) (hb : Below w.heap.size w w1) :
    VSt w [m] [[]] (.slice (some ⟨w1.heap.size, 0, none⟩) 1 1) (.slice (some ⟨w1.heap.size + 2, 0, none⟩) 1 1) (((w1.alloc (.cells #[u] 22)).alloc (.cells #[] 45)).alloc (.cells #[.slice (some ⟨w1.heap.size + 1, 0, none⟩) 0 0] 40)) := by
  have hz := hb.size
  obtain ⟨w2, h2⟩ : ∃ w2, w2 = w1.alloc (.cells #[u] 22) := ⟨_, rfl⟩
  have a2 : Below w1.heap.size w1 w2 := by rw [h2]; exact (Below.refl _ _).alloc (Nat.le_refl _) _
  have s2 : w2.heap.size = w1.heap.size + 1 := by rw [h2]; simp
  have o2 : w2.ownsRow w.heap.size 22 1 (.slice (some ⟨w1.heap.size, 0, none⟩) 1 1) 1 [u] := by rw [h2]; exact World.ownsRow_lit w1 #[u] 1 hz (by decide) rfl
  rw [← h2]; clear h2
  obtain ⟨w3, h3⟩ : ∃ w3, w3 = w2.alloc (.cells #[] 45) := ⟨_, rfl⟩
  have a3 : Below w2.heap.size w2 w3 := by rw [h3]; exact (Below.refl _ _).alloc (Nat.le_refl _) _
  have s3 : w3.heap.size = w2.heap.size + 1 := by rw [h3]; simp
  have o3 : w3.heap[w1.heap.size + 1]? = some (.cells #[] 45 (0, 0)) := by rw [h3, ← s2]; exact heap_alloc_new w2 _
  rw [← h3]; clear h3
  have a4 := (Below.refl w3.heap.size w3).alloc (Nat.le_refl _) (.cells #[.slice (some ⟨w1.heap.size + 1, 0, none⟩) 0 0] 40)
  have o4 := World.ownsRow_lit (base := w.heap.size) (e := 40) (size := 1) w3 #[.slice (some ⟨w1.heap.size + 1, 0, none⟩) 0 0] 1 (by omega) (by decide) rfl
  rw [show w3.heap.size = w1.heap.size + 2 by omega] at o4
  have b3 := a2.trans (a3.mono a2.size)
  have b4 := b3.trans (a4.mono b3.size)
  refine ⟨⟨[u], own_below (own_below o2 a3) a4, fun i hi => ?_⟩, ⟨[.slice (some ⟨w1.heap.size + 1, 0, none⟩) 0 0], o4, fun i hi => ?_⟩, hb.trans (b4.mono hb.size)⟩
  · obtain rfl : i = 0 := by simpa using hi
    exact ⟨w1.heap.size, b4.size, ownMat_below hu b4⟩
  · obtain rfl : i = 0 := by simpa using hi
    exact ownSwE_below (emptyF_own o3 (by omega)) a4
theorem swAt_kept {w w' : World} {B e n z g : Nat} {u : Value} {s : Sw} {xs : List Value} (h : SwAt w g s) (hu : w.ownsRow B e z u n xs) (hg : w.grownBy w' u.ownBlock) (hne : 45 ≠ e) : SwAt w' g s := by
  have := grownA_kept (oneF_own h) hu hg hne
  unfold SwAt at h ⊢
  rw [hg.block g (Array.getElem?_eq_some_iff.1 h).1 ?_]
  · exact h
  · intro e'
    rcases ownA_types (oneF_own h) hu hne with h1 | h1
    · simp [Value.ownBlock] at h1
    · exact h1 e'
theorem below_push {B e n z : Nat} {w w1 w2 : World} {u : Value} {xs : List Value} (h : Below B w w1) (hu : w1.ownsRow B e z u n xs) (hg : w1.grownBy w2 u.ownBlock) (hB : B ≤ w.heap.size) : Below B w w2 := h.grown hg (Nat.le_trans hB h.size) fun k hk => (hu.lt k hk).1
set_option maxRecDepth 100000 in
set_option maxHeartbeats 8000000 in
theorem l06Visit_any (v : Value) (R C : Nat) (f : Nat → Nat → Int) (w : World) (hin : InMat w v (mkM R C f)) (hI : Img R C f) (hR : R ≤ 4) (hC : C ≤ 4) :
    Calls Try.prog 82 #[v] w (VisitRes (mkM R C f) w) := by
  have HM : Hid (Node R C (mkM R C f)) := hide ⟨f, rfl, hI⟩
  have HSIZE := hide (fun L W a K (h : Bfs (mkM R C f) L W a K) => bfs_size HM.out hR hC h)
  have HCP := hide fun w h => l02Copy_any v R C f w h hI
  have HI := hide hin
  obtain ⟨m, hm⟩ : ∃ m, m = mkM R C f := ⟨_, rfl⟩
  rw [← hm] at HM HCP HI ⊢
  rw [← hm] at HSIZE
  clear hin hI hR hC hm
  go_enter Try.func82, Try.ntmps82
  go_wp2_with ((with_reducible refine (HCP.out _ HI.out).mono ?_); rintro e w1 ⟨u, rfl, hu, hb1⟩; obtain ⟨ua, un, uc, rfl⟩ : ∃ a n c, u = .slice a n c := ownM2_slice ⟨_, Nat.le_refl _, hu⟩)
  have HST := hide (visit_start hu hb1)
  have HBF := hide (bfs_start m)
  clear hu hb1
  go_loopg [4, 5, 6] 65536 (fun g lv wv i w' => ∃ L W a, a + g = 65536 ∧ i = .int .i64 a ∧ Bfs m L W a 0 ∧ VSt w L W lv wv w')
  case atStart => exact ⟨[m], [[]], 0, rfl, rfl, HBF.out, HST.out⟩
  case round =>
    clear HST HBF
    obtain ⟨L, W, a, hag, rfl, hbf, hst⟩ := hrel
    have HBF := hide hbf; have HST := hide hst
    have hL := HSIZE.out L W a 0 hbf
    have ha := hbf.le
    have hwl := hbf.len
    by_cases hlt : a < L.length
    · obtain ⟨g, rfl⟩ : ∃ g, gk = g + 1 := ⟨gk - 1, by omega⟩
      obtain ⟨gl, cl, xa, xn, xc, rfl, hgl, hxc, hx⟩ := imgs_at hst.1 hlt
      have HX := hide (bfs_node HM.out hbf hlt)
      have HXIN : Hid (InMat wr (.slice xa xn xc) (L.getD a [])) := hide (by obtain ⟨_, -, h⟩ := hx; exact inMat_own h)
      obtain ⟨x, hxx⟩ : ∃ x, x = L.getD a [] := ⟨_, rfl⟩
      have HXX := hide hxx
      rw [← hxx] at HX HXIN
      obtain ⟨n, hn⟩ : ∃ n, n = L.length := ⟨_, rfl⟩
      have hlt2 : a < n := by rw [hn]; exact hlt
      have hltI : (a : Int) < (n : Int) := by omega
      rw [← hn] at HST ⊢
      clear hbf hst hx hxx hn ha hwl
      go_wp2_with ((with_reducible refine (specSwitches_node _ _ HXIN.out HX.out).mono ?_); rintro e w6 ⟨sv, rfl, hsv, hb6⟩; obtain ⟨asl, cs, rfl⟩ := ownA_slice hsv)
      have HSV := hide (ownSws_base hsv HST.out.2.2.size); have HST6 := hide (vst_below HST.out hb6)
      have HEND := hide (befS_end HX.out)
      obtain ⟨S, hS⟩ : ∃ S, S = swsM x := ⟨_, rfl⟩
      have HS := hide hS
      rw [← hS] at HSV HEND ⊢
      obtain ⟨N, hNS⟩ : ∃ N, N = S.length := ⟨_, rfl⟩
      have HNS := hide hNS
      have hSL : N ≤ 625 := by rw [hNS, hS]; exact upS_len x 625
      rw [← hNS] at HEND ⊢
      clear hsv hb6 HST HXIN hgl hxc hS hNS
      go_loopg [4, 5, 27] N (fun g lv wv i w' => ∃ L W k, k + g = N ∧ i = .int .i64 k ∧ Bfs m L W a (befS S k) ∧ a < L.length ∧ x = L.getD a [] ∧ VSt w L W lv wv w' ∧ OwnSws w' w.heap.size (.slice asl N cs) S)
      case atStart => exact ⟨L, W, 0, Nat.zero_add _, rfl, HBF.out, hlt, HXX.out, HST6.out, by rw [HNS.out]; exact HSV.out⟩
      case round =>
        clear HST6 HSV HBF HXX hlt hlt2 hltI hL
        obtain ⟨L1, W1, k, hkg, rfl, hbf, hlt, hxx, hst, hsv⟩ := hrel
        have HBF := hide hbf; have HXX := hide hxx; have HLT := hide hlt
        have hL1 := HSIZE.out L1 W1 a _ hbf
        cases gk with
        | zero =>
          obtain rfl : k = N := by omega
          have HNX := hide (bfs_next hbf hlt HEND.out.1 (by rw [← hxx]; exact HEND.out.2))
          have HST := hide hst
          clear hbf hxx hst hsv
          go_wp2
          go_roundg g
          case measure => exact Nat.lt_succ_self g
          case rel => exact ⟨L1, W1, a + 1, by omega, by go_num, HNX.out, HST.out⟩
        | succ g2 =>
          have hk : k < N := by omega
          have hkI : (k : Int) < N := by omega
          have hkS : k < S.length := by rw [← HNS.out]; exact hk
          obtain ⟨gs, cs2, e, -⟩ := ownA_some hsv (by rw [← HNS.out]; omega)
          cases e
          have hsc := sws_cell hsv k hkS
          have HSV := hide hsv; have HST := hide hst
          have HLE := hide (befS_le (x := x) (k := k) (by rw [← HS.out]; exact hkS))
          have HALLS := hide (befS_all HX.out (k := k) (by rw [← HS.out]; exact hkS))
          have HSB := hide (sws_at HX.out (k := k) (by rw [← HS.out]; exact hkS))
          have HNEXT : Hid (befS S (k + 1) = numS (S.getD k zeroSw)) := hide rfl
          rw [← HS.out] at HLE HALLS HSB
          obtain ⟨s, hs⟩ : ∃ s, s = S.getD k zeroSw := ⟨_, rfl⟩
          rw [← hs] at hsc HLE HALLS HSB HNEXT
          clear hsv hst hbf hxx hs hkS
          go_wp2_with (first | (with_reducible refine wpList_loadSwC hsc 30 rfl rfl _ rfl rfl ?_) | ((with_reducible refine wpList_allocSw 8 rfl rfl rfl ?_); intro w7 h7 b7 s7) | ((refine wpList_storeSw h7 s rfl (.tmp 8) (.tmp 30) rfl rfl rfl ?_); intro w8 h8 g8 s8))
          have b8 := b7.trans (grown_below g8 (fun k hk => by cases hk; exact Nat.le_refl _) b7.size)
          have E1 := hide (vst_below HST.out b8); have E2 := hide (ownSws_below HSV.out b8); have E3 := hide h8
          obtain ⟨gw, hgw⟩ : ∃ gw, gw = wr.heap.size := ⟨_, rfl⟩
          rw [← hgw] at E3 ⊢
          obtain ⟨gl, cl, xa, xn, xc, rfl, hgl, hxc, hx⟩ := imgs_at E1.out.1 hlt
          have HGL := hide hgl; have HXC := hide hxc
          have HXIN : Hid (InMat w8 (.slice xa xn xc) x) := hide (by rw [HXX.out]; obtain ⟨_, -, h⟩ := hx; exact inMat_own h)
          obtain ⟨n1, hn1⟩ : ∃ n1, n1 = L1.length := ⟨_, rfl⟩
          have HN1 := hide hn1
          have hlt2 : a < n1 := by rw [hn1]; exact hlt
          have hltI : (a : Int) < (n1 : Int) := by omega
          rw [← hn1] at hL1 E1 ⊢
          have hwh : w.heap.size ≤ w8.heap.size := E1.out.2.2.size
          clear h7 b7 s7 h8 g8 s8 b8 hsc HSV HST hgw hgl hxc hx hn1 hlt
          obtain ⟨fs, hfs⟩ : ∃ fs : List FactP, fs = [isV (.slice (some ⟨gl, 0, none⟩) n1 cl), isV (.int .i64 a), isV (.pointer (some ⟨gl, a, none⟩)), isV (.slice xa xn xc), isV (swV s), imgNew w8.heap.size (flipM x s)] := ⟨_, rfl⟩
          have hst : ∀ f ∈ fs, StableP f := by
            rw [hfs]; intro f hf
            simp only [List.mem_cons, List.not_mem_nil, or_false] at hf
            rcases hf with rfl | rfl | rfl | rfl | rfl | rfl <;> first | exact stable_v _ | exact stable_imgNew _ _
          subst hfs
          refine wp_region_tail (S := fun w2 => Below w8.heap.size w8 w2) [isV (.slice (some ⟨gl, 0, none⟩) n1 cl), isV (.int .i64 a), isV (.pointer (some ⟨gl, a, none⟩)), isV (.slice xa xn xc), isV (swV s), imgNew w8.heap.size (flipM x s)] [(4, .slice (some ⟨gl, 0, none⟩) n1 cl), (6, .int .i64 a), (8, .pointer (some ⟨gw, 0, none⟩))] _ _ 6 (by kernel_rfl) rfl rfl (by kernel_rfl) (by kernel_rfl) rfl (by kernel_rfl) ?base (below_drew (Below.refl _ _)) ?ob rfl ?fin
          case base =>
            intro t v ht
            simp only [List.lookup_cons, List.lookup_nil] at ht
            repeat' split at ht
            all_goals first | (cases ht; done) | (obtain rfl := Option.some.inj ht; rename_i hh; obtain rfl := eq_of_beq hh; rfl)
          case ob =>
            exact ⟨obt_move (.slice (some ⟨gl, 0, none⟩) n1 cl) rfl rfl rfl (srt_b 4 rfl),
              obt_move (.int .i64 a) rfl rfl rfl (srt_b 6 rfl),
              obt_two (.pointer (some ⟨gl, a, none⟩)) rfl rfl (srt_j 0 rfl (by kernel_rfl) rfl) (srt_j 1 rfl (by kernel_rfl) rfl) (fun ρ w2 hS hx hy => by go_simp),
              obt_one (.slice xa xn xc) rfl rfl (srt_j 2 rfl (by kernel_rfl) rfl) (fun ρ w2 hS hx => by have hc := below_cell hS HGL.out HXC.out; go_simp),
              obt_one (swV s) rfl rfl (srt_b 8 rfl) (fun ρ w2 hS hx => exec_loadSw rfl hx (swAt_below E3.out hS)),
              obt_call hst [.slice xa xn xc, swV s] rfl Try.func73 (by kernel_rfl) (by kernel_rfl) rfl ⟨(srt_j 3 rfl (by kernel_rfl) rfl), (srt_j 4 rfl (by kernel_rfl) rfl), trivial⟩ (fun w2 hS => (specApply_node _ w2 (inMat_below HXIN.out hS) HX.out HSB.out).mono fun e w3 hh => ⟨hh.choose, hh.choose_spec.1, hS.trans (hh.choose_spec.2.2.mono hS.size), hh.choose_spec.2.2, ⟨w3.heap.size, Nat.le_refl _, ownMat_mono hh.choose_spec.2.1 hS.size (Nat.le_refl _)⟩⟩),
              trivial⟩
          case fin =>
            intro a' w' h1 h2 h3 hS h4 K hK
            have hx5 : OwnM2 w' w8.heap.size (a'.tmps.getD 36 undef) (flipM x s) := h4 5 36 rfl (by decide)
            obtain ⟨x36, hx36⟩ : ∃ u, a'.tmps.getD 36 undef = u := ⟨_, rfl⟩
            rw [hx36] at hx5
            obtain ⟨ya, yn, yc, rfl⟩ := ownM2_slice hx5
            refine tail_assign rfl (show a'.eval (.tmp 36) = .slice ya yn yc from hx36) ?_ K hK
            have ha := frame_ov rfl h1 h2 h3 [(31, .slice (some ⟨gl, 0, none⟩) n1 cl), (32, .int .i64 a), (33, .pointer (some ⟨gl, a, none⟩)), (34, .slice xa xn xc), (35, swV s), (36, .slice ya yn yc), (9, a'.tmps.getD 9 undef)] (by kernel_rfl) ⟨h4 0 31 rfl (by decide), h4 1 32 rfl (by decide), h4 2 33 rfl (by decide), h4 3 34 rfl (by decide), h4 4 35 rfl (by decide), hx36, rfl, trivial⟩
            dsimp only [ov, List.lookup, Nat.reduceBEq, Nat.reduceAdd] at ha
            show Exit.then _ _ Exit.normal (Act.put a' (some 9) (.slice ya yn yc)) _
            rw [ha]
            generalize a'.tmps.getD 9 undef = u9
            have HY := hide (⟨hx5.choose, hx5.choose_spec.1, ownMat_mono hx5.choose_spec.2 hwh (Nat.le_refl _)⟩ : OwnM2 w' w.heap.size (.slice ya yn yc) (flipM x s))
            have F1 := hide (vst_below E1.out hS); have F2 := hide (ownSws_below E2.out hS); have F3 := hide (swAt_below E3.out hS)
            clear ha h1 h2 h3 h4 hst hK hx36 hx5 E1 E2 E3 HGL HXC HXIN hS hwh
            have FIN := hide (l06Find_any (.slice (some ⟨gl, 0, none⟩) n1 cl) (.slice ya yn yc) L1 (flipM x s) w' (ownImgs_in F1.out.1) (by obtain ⟨_, -, h⟩ := HY.out; exact inMat_own h))
            by_cases hy : flipM x s ∈ L1
            · have HKN := hide (bfs_known HM.out HBF.out HLT.out (by rw [← HXX.out]; exact HSB.out) HLE.out (by rw [← HXX.out]; exact HALLS.out) (by rw [← HXX.out]; exact hy))
              have HIN := hide hy
              clear hy
              go_wp2_with ((with_reducible refine FIN.out.mono ?_); rintro e w10 ⟨r, rfl, hb, hr⟩; obtain ⟨k2, rfl⟩ : ∃ k2 : Nat, r = k2 := (by rcases hr with ⟨-, hno⟩ | ⟨k2, h, -⟩; exact absurd HIN.out hno; exact ⟨k2, h⟩); have hk0 : (0 : Int) ≤ (k2 : Int) := Int.natCast_nonneg k2; have G1 := hide (vst_below F1.out hb); have G2 := hide (ownSws_below F2.out hb); clear hb hr)
              go_roundg g2
              case measure => exact Nat.lt_succ_self g2
              case rel => exact ⟨L1, W1, k + 1, by omega, by go_num, by rw [HNEXT.out]; exact HKN.out, HLT.out, HXX.out, G1.out, G2.out⟩
            · have HNW := hide (bfs_new HM.out HBF.out HLT.out (by rw [← HXX.out]; exact HSB.out) HLE.out (by rw [← HXX.out]; exact HALLS.out) (by rw [← HXX.out]; exact hy))
              rw [← HXX.out] at HNW
              have HNI := hide hy
              have HWLEN := hide HBF.out.len
              have HPL := hide (bfs_wlen HBF.out a HLT.out)
              have HPUSH := hide F1.out.1
              clear hy
              go_wp2_with (first | ((with_reducible refine FIN.out.mono ?_); rintro e w10 ⟨r, rfl, hb, hr⟩; obtain rfl : r = -1 := (by rcases hr with ⟨h, -⟩ | ⟨k2, -, hk2, e2⟩; exact h; exact absurd (by rw [← e2]; exact List.getElem_mem hk2) HNI.out); have G1 := hide (vst_below F1.out hb); have G2 := hide (ownSws_below F2.out hb); have G3 := hide (swAt_below F3.out hb); have GY := hide (ownM2_below HY.out hb); obtain ⟨us, hv, hvr⟩ := G1.out.1; rw [← HN1.out] at hv; have HV := hide hv; have HVR := hide hvr; clear hb hr hv hvr F1 F2 F3 HY FIN) | (at_builtin; refine wpList_push HV.out (.slice ya yn yc) (.slice none 0 0) rfl (.tmp 41) (.tmp 43) rfl Try.underlying90 Try.infoMat rfl (by decide) rfl rfl rfl (by omega) G1.out.2.2.size ?_; intro v44 w11 ho11 hb11 hg11; obtain ⟨a44, c44, rfl⟩ := own_slice ho11))
              have K1 := hide (ownImgs_push (by rw [← HN1.out]; exact HV.out) HVR.out GY.out hg11 (by rw [← HN1.out]; exact ho11))
              have K2 := hide (grownA_kept G2.out HV.out hg11 (by decide))
              have K3 := hide (swAt_kept G3.out HV.out hg11 (by decide))
              have K4 := hide (ownWs_kept G1.out.2.1 HV.out hg11 (by decide) (by decide))
              have KB := hide (below_push G1.out.2.2 HV.out hg11 (Nat.le_refl _))
              clear ho11 hb11 hg11 G1 G2 G3 GY HV HVR
              obtain ⟨gv, cv, gp, pc, rfl, hgv, hpc, hp⟩ := ways_at K4.out (a := a) (by rw [HWLEN.out]; exact HLT.out)
              have HGV := hide hgv; have HPC := hide hpc; have HP := hide hp
              rw [HWLEN.out, ← HN1.out]
              obtain ⟨P, hP⟩ : ∃ P, P = W1.getD a [] := ⟨_, rfl⟩
              rw [← hP] at HPC HP HPL HNW
              have HPP := hide hP
              obtain ⟨nP, hnP⟩ : ∃ nP, nP = P.length := ⟨_, rfl⟩
              rw [← hnP] at HPC HP HPL
              have HNP := hide hnP
              have hwh : w.heap.size ≤ w11.heap.size := KB.out.size
              clear hgv hpc hp hP hnP
              have HK4 : Hid (OwnWs w11 w.heap.size (.slice (some ⟨gv, 0, none⟩) n1 cv) W1) := hide (by have h := K4.out; rw [HWLEN.out, ← HN1.out] at h; exact h)
              obtain ⟨fs, hfs⟩ : ∃ fs : List FactP, fs = [isV (.slice (some ⟨gv, 0, none⟩) n1 cv), emptyF w11.heap.size, isV (.slice (some ⟨gv, 0, none⟩) n1 cv), isV (.int .i64 a), isV (.pointer (some ⟨gv, a, none⟩)), isV (.slice (some ⟨gp, 0, none⟩) nP pc), swsF w11.heap.size P, isV (swV s), oneF w11.heap.size s, swsF w11.heap.size (P ++ [s]), oneWayF w11.heap.size (P ++ [s]), waysF w11 w.heap.size (.slice (some ⟨gv, 0, none⟩) n1 cv) (W1 ++ [P ++ [s]])] := ⟨_, rfl⟩
              have hst : ∀ f ∈ fs, StableP f := by
                rw [hfs]; intro f hf
                simp only [List.mem_cons, List.not_mem_nil, or_false] at hf
                rcases hf with rfl | rfl | rfl | rfl | rfl | rfl | rfl | rfl | rfl | rfl | rfl | rfl <;> first | exact stable_v _ | exact stable_emptyF _ | exact stable_swsF _ _ | exact stable_oneF _ _ | exact stable_oneWayF _ _ | exact stable_waysF _ _ _ _
              subst hfs
              have hS1 : ∀ (wy wz : World), Below w11.heap.size w11.drew wy → Below wy.heap.size wy wz → Below w11.heap.size w11.drew wz := fun wy wz h k => h.trans (k.mono h.size)
              have hS0 : ∀ wy : World, Below w11.heap.size w11.drew wy → Below w11.heap.size w11 wy := fun wy h => (below_drew (Below.refl _ w11)).trans h
              refine wp_region_pen (S := fun wy => Below w11.heap.size w11.drew wy) 11 [isV (.slice (some ⟨gv, 0, none⟩) n1 cv), emptyF w11.heap.size, isV (.slice (some ⟨gv, 0, none⟩) n1 cv), isV (.int .i64 a), isV (.pointer (some ⟨gv, a, none⟩)), isV (.slice (some ⟨gp, 0, none⟩) nP pc), swsF w11.heap.size P, isV (swV s), oneF w11.heap.size s, swsF w11.heap.size (P ++ [s]), oneWayF w11.heap.size (P ++ [s]), waysF w11 w.heap.size (.slice (some ⟨gv, 0, none⟩) n1 cv) (W1 ++ [P ++ [s]])] [(5, .slice (some ⟨gv, 0, none⟩) n1 cv), (6, .int .i64 a), (8, .pointer (some ⟨gw, 0, none⟩))] _ _ 12 (by kernel_rfl) (by decide) (by kernel_rfl) rfl rfl (by kernel_rfl) (by kernel_rfl) rfl (by kernel_rfl) ?baseA (Below.refl _ _) ?obA rfl ?finA
              case baseA =>
                intro t v ht
                simp only [List.lookup_cons, List.lookup_nil] at ht
                repeat' split at ht
                all_goals first | (cases ht; done) | (obtain rfl := Option.some.inj ht; rename_i hh; obtain rfl := eq_of_beq hh; rfl)
              case obA =>
                exact ⟨obp_of (obn_of (by kernel_rfl) (obt_move (.slice (some ⟨gv, 0, none⟩) n1 cv) rfl rfl rfl (srt_b 5 rfl))),
    obp_of (obn_of (by kernel_rfl) (obt_make hst rfl fun ac wy hS hs => ⟨_, _, exec_buildNoSw rfl, hS1 _ _ hS ((Below.refl _ _).alloc (Nat.le_refl _) _), (Below.refl _ _).alloc (Nat.le_refl _) _, ⟨wy.heap.size, rfl, hS.size, heap_alloc_new wy _⟩⟩)),
    obp_of (obn_of (by kernel_rfl) (obt_move (.slice (some ⟨gv, 0, none⟩) n1 cv) rfl rfl rfl (srt_b 5 rfl))),
    obp_of (obn_of (by kernel_rfl) (obt_move (.int .i64 a) rfl rfl rfl (srt_b 6 rfl))),
    obp_of (obn_of (by kernel_rfl) (obt_two (.pointer (some ⟨gv, a, none⟩)) rfl rfl (srt_j 2 rfl (by kernel_rfl) rfl) (srt_j 3 rfl (by kernel_rfl) rfl) (fun ρ w2 hS hx hy => by go_simp))),
    obp_of (obn_of (by kernel_rfl) (obt_one (.slice (some ⟨gp, 0, none⟩) nP pc) rfl rfl (srt_j 4 rfl (by kernel_rfl) rfl) (fun ρ w2 hS hx => by have hc := below_cell (hS0 _ hS) HGV.out HPC.out; go_simp))),
    fun ac wy hS hB hD K hK => by
      obtain ⟨g, e46, hg1, hg2⟩ : emptyF w11.heap.size (ac.tmps.getD 46 undef) wy := hD 1 46 rfl (by kernel_rfl)
      have h50 : ac.tmps.getD 50 undef = .slice (some ⟨gp, 0, none⟩) nP pc := hD 5 50 rfl (by kernel_rfl)
      obtain ⟨v', wz, hr, ho, hgr⟩ := exec_appSws 40 (emptyF_own hg2 hg1) (ownSws_below HP.out (hS0 _ hS)) hS.size (by have := HPL.out; have := HNP.out; simp only [List.length_nil]; omega)
      refine ⟨.inl rfl, run_value v' (hr ac.eval _ (.tmp 46) (.tmp 50) rfl rfl e46 h50) (hK _ _ (fun _ => hS.grown hgr hS.size (fun k hk => by cases hk; exact hg1)) (fun j hj => ?_) ho)⟩
      have hj' := List.all_eq_true.1 (show ((needPL _ 6).all fun j => j == 0 || j == 7 || j == 8) = true by kernel_rfl) j (needPL_of hj)
      simp only [Bool.or_eq_true, beq_iff_eq] at hj'
      rcases hj' with (rfl | rfl) | rfl
      · exact fun u h => h
      · exact fun u h => h
      · exact fun u h => oneF_far h hg2 hgr,
    obp_of (obn_of (by kernel_rfl) (obt_one (swV s) rfl rfl (srt_b 8 rfl) (fun ρ w2 hS hx => exec_loadSw rfl hx (swAt_below K3.out (hS0 _ hS))))),
    obp_of (obn_of (by kernel_rfl) (obt_make hst rfl fun ac wy hS hs => ⟨_, _, exec_buildSw (s := s) rfl (hs _ _ (srt_j 7 rfl (by kernel_rfl) rfl)), hS1 _ _ hS ((Below.refl _ _).alloc (Nat.le_refl _) _), (Below.refl _ _).alloc (Nat.le_refl _) _, ⟨wy.heap.size, rfl, hS.size, heap_alloc_new wy _⟩⟩)),
    fun ac wy hS hB hD K hK => by
      have h51 : OwnSwE wy w11.heap.size (ac.tmps.getD 51 undef) P := hD 6 51 rfl (by kernel_rfl)
      obtain ⟨b, e53, hb1, hb2⟩ : oneF w11.heap.size s (ac.tmps.getD 53 undef) wy := hD 8 53 rfl (by kernel_rfl)
      obtain ⟨v', wz, hr, ho, hgr⟩ := exec_appSws 40 h51 (oneF_own hb2) hS.size (by have := HPL.out; have := HNP.out; simp only [List.length_singleton]; omega)
      refine ⟨.inl rfl, run_value v' (hr ac.eval _ (.tmp 51) (.tmp 53) rfl rfl rfl e53) (hK _ _ (fun _ => hS.grown hgr hS.size (fun k hk => (h51.1.lt k hk).1)) (fun j hj => ?_) ho)⟩
      have hj' := List.all_eq_true.1 (show ((needPL _ 9).all fun j => j == 0) = true by kernel_rfl) j (needPL_of hj)
      simp only [beq_iff_eq] at hj'
      subst hj'
      exact fun u h => h,
    fun ac wy hS hB hD K hK => by
      have h54 : OwnSwE wy w11.heap.size (ac.tmps.getD 54 undef) (P ++ [s]) := hD 9 54 rfl (by kernel_rfl)
      obtain ⟨g, c, e54⟩ := h54.2
      have hbl : Below wy.heap.size wy (wy.alloc (.cells #[.slice (some ⟨g, 0, none⟩) (P ++ [s]).length c] 40)) := (Below.refl _ _).alloc (Nat.le_refl _) _
      have hc : (wy.alloc (.cells #[.slice (some ⟨g, 0, none⟩) (P ++ [s]).length c] 40)).cell? ⟨wy.heap.size, 0, none⟩ = some (.slice (some ⟨g, 0, none⟩) (P ++ [s]).length c) := by
        rw [cell_of_row _ wy.heap.size 0 _ _ (0, 0) (heap_alloc_new wy _)]; rfl
      refine ⟨.inl rfl, run_value _ (exec_buildWay rfl (show ac.eval (.tmp 54) = _ from e54)) (hK _ _ (fun _ => hS1 _ _ hS hbl) (fun j _ u h => stable_all hst j u _ _ hbl h) ⟨wy.heap.size, _, rfl, by simp, hc, ?_⟩)⟩
      have h6 := ownSwE_below h54 hbl
      rw [e54] at h6
      exact h6,
    fun ac wy hS hB hD K hK => by
      have h45 : ac.tmps.getD 45 undef = .slice (some ⟨gv, 0, none⟩) n1 cv := hD 0 45 rfl (by kernel_rfl)
      obtain ⟨b, e, e55, hb1, hb2, hb3⟩ : oneWayF w11.heap.size (P ++ [s]) (ac.tmps.getD 55 undef) wy := hD 10 55 rfl (by kernel_rfl)
      obtain ⟨v', wz, hr, ho, hgr⟩ := exec_appWs 91 (ownWs_below (HK4.out) (hS0 _ hS)) hb2 hb3 hwh (Nat.le_trans hwh (hS0 _ hS).size) (by have := HWLEN.out; have := HN1.out; omega)
      exact ⟨.inl rfl, run_value v' (hr ac.eval _ (.tmp 45) (.tmp 55) rfl rfl h45 e55) (hK _ _ (fun hne => absurd rfl hne) (fun j hj => absurd (needPL_of hj) (by rw [show needPL _ 11 = [] by kernel_rfl]; simp)) ⟨grown_trans (grown_of_below (hS0 _ hS) _) hgr, ho⟩)⟩,
    trivial⟩
              case finA =>
                intro a' w' h1 h2 h3 h4 K hK
                obtain ⟨hg, ho⟩ : waysF w11 w.heap.size (.slice (some ⟨gv, 0, none⟩) n1 cv) (W1 ++ [P ++ [s]]) (a'.tmps.getD 56 undef) w' := h4 11 56 rfl (by decide) (by kernel_rfl)
                obtain ⟨v56, hv56⟩ : ∃ u, a'.tmps.getD 56 undef = u := ⟨_, rfl⟩
                rw [hv56] at ho
                refine tail_assign rfl (show a'.eval (.tmp 56) = v56 from hv56) ?_ K hK
                have ha := frame_ov rfl h1 h2 h3 [(45, a'.tmps.getD 45 undef), (46, a'.tmps.getD 46 undef), (47, a'.tmps.getD 47 undef), (48, a'.tmps.getD 48 undef), (49, a'.tmps.getD 49 undef), (50, a'.tmps.getD 50 undef), (51, a'.tmps.getD 51 undef), (52, a'.tmps.getD 52 undef), (53, a'.tmps.getD 53 undef), (54, a'.tmps.getD 54 undef), (55, a'.tmps.getD 55 undef), (56, v56), (5, a'.tmps.getD 5 undef)] (by kernel_rfl) ⟨rfl, rfl, rfl, rfl, rfl, rfl, rfl, rfl, rfl, rfl, rfl, hv56, rfl, trivial⟩
                dsimp only [ov, List.lookup, Nat.reduceBEq, Nat.reduceAdd] at ha
                show Exit.inBlock _ _ Exit.normal (Act.put a' (some 5) v56) _
                rw [ha]
                generalize a'.tmps.getD 45 undef = u45
                generalize a'.tmps.getD 46 undef = u46
                generalize a'.tmps.getD 47 undef = u47
                generalize a'.tmps.getD 48 undef = u48
                generalize a'.tmps.getD 49 undef = u49
                generalize a'.tmps.getD 50 undef = u50
                generalize a'.tmps.getD 51 undef = u51
                generalize a'.tmps.getD 52 undef = u52
                generalize a'.tmps.getD 53 undef = u53
                generalize a'.tmps.getD 54 undef = u54
                generalize a'.tmps.getD 55 undef = u55
                generalize a'.tmps.getD 5 undef = u5
                obtain ⟨us4, hu4, -⟩ := id HK4.out
                have M1 := hide (ownImgs_kept K1.out hu4 hg (by decide) (by decide) (by decide))
                have M2 := hide (grownA_kept K2.out hu4 hg (by decide))
                have MB := hide (below_push KB.out hu4 hg (Nat.le_refl _))
                have MW := hide ho
                obtain ⟨us5, hu5, -⟩ := ho
                obtain ⟨a56, c56, rfl⟩ := own_slice hu5
                obtain ⟨n56, hn56⟩ : ∃ n, n = (W1 ++ [P ++ [s]]).length := ⟨_, rfl⟩
                rw [← hn56] at MW ⊢
                clear hst h1 h2 h3 h4 hK hS1 hS0 ha hv56 hg hu4 hu5 hn56 K1 K2 K3 K4 HK4 KB HGV HPC HP
                go_wp2
                go_roundg g2
                case measure => exact Nat.lt_succ_self g2
                case rel => exact ⟨L1 ++ [flipM x s], W1 ++ [P ++ [s]], k + 1, by omega, by go_num, by rw [HNEXT.out]; exact HNW.out, by have := HLT.out; simp; omega, by rw [getD_snoc_lt _ _ _ HLT.out]; exact HXX.out, ⟨M1.out, MW.out, MB.out⟩, M2.out⟩
    · obtain rfl : a = L.length := by omega
      obtain ⟨us, hv, -⟩ := id hst.1
      obtain ⟨la, lc, rfl⟩ := own_slice hv
      obtain ⟨n, hn⟩ : ∃ n, n = L.length := ⟨_, rfl⟩
      have HN := hide hn
      rw [← hn]
      clear hbf hst hv hn ha hL hwl hlt
      go_wp2
      go_ret2
      exact ⟨_, _, L, W, 0, rfl, by have := ownImgs_in HST.out.1; rw [← HN.out] at this; exact this, ownWs_ways HST.out.2.1, HBF.out, HST.out.2.2⟩
theorem visit_at : VisitAt := fun v R C f w h1 h2 h3 h4 => l06Visit_any v R C f w h1 h2 h3 h4
end Go.Proofs.Ytcliiefedmiokaa
/-
  PathTo and NextTo of both answer the same.
-/
namespace Go.Proofs.Ytcliiefedmiokaa
open Go.RowKit

/-- What PathTo lists. -/
def PathOf (m l : List (List Int)) (P : List Sw) : Prop := (pathB m l = true → Best m l P) ∧ (pathB m l = false → P = [])
open Classical in
noncomputable def pathL (m l : List (List Int)) : List Sw := if h : ∃ P, PathOf m l P then h.choose else []
theorem pathB_node {m l : List (List Int)} (h : pathB m l = true) : ∃ R C f g, m = mkM R C f ∧ l = mkM R C g ∧ Img R C f ∧ Img R C g ∧ SameF R C f g ∧ R ≤ 4 ∧ C ≤ 4 := by
  unfold pathB at h
  rw [Bool.and_eq_true] at h
  obtain ⟨R, C, f, g, rfl, rfl, hI, hJ, hs⟩ := sameB_yes h.1
  have h2 := h.2
  rw [mkM_len, width_mk hI] at h2
  simp only [Bool.and_eq_true, decide_eq_true_eq] at h2
  exact ⟨R, C, f, g, rfl, rfl, hI, hJ, hs, h2.1, h2.2⟩
theorem path_uniq {m l : List (List Int)} {P Q : List Sw} (h1 : PathOf m l P) (h2 : PathOf m l Q) : P = Q := by
  cases h : pathB m l with
  | false => rw [h1.2 h, h2.2 h]
  | true =>
    obtain ⟨R, C, f, g, rfl, rfl, hI, -⟩ := pathB_node h
    exact best_one ⟨f, rfl, hI⟩ (h1.1 h) (h2.1 h)
theorem path_one {m l : List (List Int)} {P : List Sw} (h : PathOf m l P) : P = pathL m l := by
  have hex : ∃ P, PathOf m l P := ⟨P, h⟩
  unfold pathL
  rw [dif_pos hex]
  exact path_uniq h hex.choose_spec
theorem path_len {m l : List (List Int)} {P : List Sw} (h : PathOf m l P) : P.length ≤ 12 := by
  cases hb : pathB m l with
  | false => rw [h.2 hb]; exact Nat.zero_le _
  | true =>
    have hp := h.1 hb
    obtain ⟨R, C, f, g, rfl, rfl, hI, hJ, hs, -⟩ := pathB_node hb
    obtain ⟨q, hq, hl⟩ := joined _ f g (Nat.le_refl _) hI hJ hs
    have h1 := best_len ⟨f, rfl, hI⟩ hp hq
    have h2 : diff R C f g ≤ 25 := cnt_le _ _
    omega
theorem pathL_len (m l : List (List Int)) : (pathL m l).length ≤ 12 := by
  unfold pathL
  split
  · rename_i h; exact path_len h.choose_spec
  · exact Nat.zero_le _
def PathAns (m l : List (List Int)) (w : World) (e : Ending) (w' : World) : Prop := ∃ v, e = .returned (.tuple #[v, .bool (pathB m l)]) ∧ OwnSws w' w.heap.size v (pathL m l) ∧ Below w.heap.size w w'
theorem pathAns {m l : List (List Int)} {w w' : World} {e : Ending} (h : PathRes m l w e w') : PathAns m l w e w' := by
  obtain ⟨v, P, rfl, h1, h2, h3, h4⟩ := h
  rw [path_one ⟨h3, h4⟩] at h1
  exact ⟨v, rfl, h1, h2⟩
def NextAns (m l : List (List Int)) (w : World) (e : Ending) (w' : World) : Prop := e = .returned (.tuple #[swV ((pathL m l).headD zeroSw), .bool (!(pathL m l).isEmpty)]) ∧ Below w.heap.size w w'
theorem nextAns {m l : List (List Int)} {w w' : World} {e : Ending} (h : NextRes m l w e w') : NextAns m l w e w' := by
  obtain ⟨P, rfl, h2, h3, h4⟩ := h
  obtain rfl := path_one ⟨h3, h4⟩
  exact ⟨rfl, h2⟩
theorem specPath_l (v u : Value) (m l : List (List Int)) (w : World) (hin : InMat w v m) (hin2 : InMat w u l) : Calls Try.prog 37 #[v, u] w (PathAns m l w) :=
  (specPathTo_any visit_at v u m l w hin hin2).mono fun _ _ h => pathAns h
theorem implPath_l (v u : Value) (m l : List (List Int)) (w : World) (hin : InMat w v m) (hin2 : InMat w u l) : Calls Try.prog 29 #[v, u] w (PathAns m l w) :=
  (implPathTo_any v u m l w hin hin2).mono fun _ _ h => pathAns h
theorem specNext_l (v u : Value) (m l : List (List Int)) (w : World) (hin : InMat w v m) (hin2 : InMat w u l) : Calls Try.prog 35 #[v, u] w (NextAns m l w) :=
  (specNextTo_any visit_at v u m l w hin hin2).mono fun _ _ h => nextAns h
theorem implNext_l (v u : Value) (m l : List (List Int)) (w : World) (hin : InMat w v m) (hin2 : InMat w u l) : Calls Try.prog 31 #[v, u] w (NextAns m l w) :=
  (implNextTo_any v u m l w hin hin2).mono fun _ _ h => nextAns h
end Go.Proofs.Ytcliiefedmiokaa
/-
  ApplyAll, ApplySwitch, SwitchOk, SwitchesOf, IsUnique of the program.
-/
namespace Go.Proofs.Ytcliiefedmiokaa
open Go.RowKit

theorem wpList_loadSwW {ops : Array Oper} {rest : List Oper} {o : Oper} {a : Act} {Q : Exit → Act → World → Prop} {W : World} {g k : Nat} {s : Sw} (hb : SwC W g k s)
    (d : Tmp) (_hd : o.dst = some d) (j : Nat) (want : Bool) (hg : o.guard = some (j, want)) (b : Bool) (hy : yielded ops a.tmps j = some b) (hw : b = want) (x : Operand) (ho : o.op = .load 45 x) (hx : a.eval x = .pointer (some ⟨g, k, none⟩))
    (h : wpList Try.prog ops Q rest (a.put o.dst (swV s)) W) : wpList Try.prog ops Q (o :: rest) a W := by
  obtain ⟨h0, h1, h2, h3⟩ := hb
  refine wpList_step fun K hK => ?_
  rw [if_pos (show Region.wanted o (yielded ops a.tmps) = true by unfold Region.wanted; rw [hg]; simp only [hy, hw, beq_self_eq_true])]
  have : (execOp a.eval o).run Try.prog W = .ok (.value (swV s)) W := by
    unfold execOp
    simp only [ho, hx]
    go_simp
    rfl
  unfold Oper.wp
  rw [this]
  exact hK _ _ h
theorem goM_stop {m t : List (List Int)} {l : List Sw} {k : Nat} (hk : k < l.length) (h : goM m (l.take k) = some t) (hs : swB t l[k] = false) : goM m l = none := by
  have e : l = l.take k ++ (l[k] :: l.drop (k + 1)) := by rw [List.getElem_cons_drop, List.take_append_drop]
  rw [e, goM_append, h]
  simp only [Option.bind_some, goM, hs]
  rfl
theorem goM_take {m t : List (List Int)} {l : List Sw} {k : Nat} (hk : k < l.length) (h : goM m (l.take k) = some t) (hs : swB t l[k] = true) : goM m (l.take (k + 1)) = some (flipM t l[k]) := by
  rw [List.take_succ_eq_append_getElem hk]
  exact goM_snoc h hs
theorem goM_full {m : List (List Int)} {l : List Sw} {r : Option (List (List Int))} (h : goM m (l.take l.length) = r) : goM m l = r := by rwa [List.take_length] at h
/-- What ApplyAll answers. -/
def appRows (m : List (List Int)) (l : List Sw) : List (List Int) := if l.length ≤ 60 then (goM m l).getD [] else []
def appOk (m : List (List Int)) (l : List Sw) : Bool := decide (l.length ≤ 60) && (goM m l).isSome
theorem app_long {m : List (List Int)} {l : List Sw} (h : 60 < l.length) : appRows m l = [] ∧ appOk m l = false := by
  unfold appRows appOk
  rw [if_neg (by omega), decide_eq_false (by omega)]
  exact ⟨rfl, rfl⟩
theorem app_some {m t : List (List Int)} {l : List Sw} (h : l.length ≤ 60) (hg : goM m l = some t) : appRows m l = t ∧ appOk m l = true := by
  unfold appRows appOk
  rw [if_pos h, decide_eq_true h, hg]
  exact ⟨rfl, rfl⟩
theorem app_none {m : List (List Int)} {l : List Sw} (h : l.length ≤ 60) (hg : goM m l = none) : appRows m l = [] ∧ appOk m l = false := by
  unfold appRows appOk
  rw [if_pos h, decide_eq_true h, hg]
  exact ⟨rfl, rfl⟩
set_option maxHeartbeats 1000000 in
theorem implApplyAll_no (v lv : Value) (m : List (List Int)) (l : List Sw) (w : World) (hin : InMat w v m) (hl : InSws w lv l) (h : okB m = false) :
    Calls Try.prog 33 #[v, lv] w (MatRes2 [] false w) := by
  have HI := hide hin; have H := hide h
  obtain ⟨la, lc, rfl, -⟩ := hl
  clear hin h
  go_enter Try.func33, Try.ntmps33
  go_wp2_with (first | ((with_reducible refine (imageOf_no v m _ HI.out H.out).mono ?_); rintro e w1 ⟨rfl, b1⟩) | ((with_reducible refine wpList_allocVec 25 6 rfl rfl rfl Try.zeroImg ?_); intro w2 h2 b2 s2; have hb := b1.trans (b2.mono b1.size)) | ((with_reducible refine wpList_storeVec h2 rfl (.tmp 6) (.tmp 13) rfl rfl rfl Try.sizeImg ?_); intro w3 h3 g3 s3; have hb3 := hb.trans (grown_below g3 (fun k hk => by cases hk; exact b1.size) hb.size)))
  go_ret2
  exact matRes2_nil hb3
set_option maxRecDepth 100000 in
set_option maxHeartbeats 4000000 in
theorem implApplyAll_long (v lv : Value) (R C : Nat) (f : Nat → Nat → Int) (l : List Sw) (w : World) (hin : InMat w v (mkM R C f)) (hI : Img R C f) (hl : InSws w lv l) (h60 : 60 < l.length) :
    Calls Try.prog 33 #[v, lv] w (MatRes2 [] false w) := by
  have HI := hide hin; have H := hide hI
  obtain ⟨la, lc, rfl, hm, -⟩ := hl
  unfold maxLen at hm
  have h60I : (60 : Int) < l.length := by omega
  clear hin hI
  go_enter Try.func33, Try.ntmps33
  go_wp2_with (first | ((with_reducible refine (imageOf_yes v R C f _ HI.out H.out).mono ?_); rintro e w1 ⟨rfl, b1⟩) | ((with_reducible refine wpList_allocVec 25 6 rfl rfl rfl Try.zeroImg ?_); intro w2 h2 b2 s2; have hb := b1.trans (b2.mono b1.size)) | ((with_reducible refine wpList_storeVec h2 rfl (.tmp 6) (.tmp 13) rfl rfl rfl Try.sizeImg ?_); intro w3 h3 g3 s3; have hb3 := hb.trans (grown_below g3 (fun k hk => by cases hk; exact b1.size) hb.size)))
  go_ret2
  exact matRes2_nil hb3
set_option maxRecDepth 100000 in
set_option maxHeartbeats 4000000 in
theorem implApplyAll_yes (v lv : Value) (R C : Nat) (f : Nat → Nat → Int) (l : List Sw) (w : World) (hin : InMat w v (mkM R C f)) (hI : Img R C f) (hl : InSws w lv l) (h60 : l.length ≤ 60) :
    Calls Try.prog 33 #[v, lv] w (MatRes2 (appRows (mkM R C f) l) (appOk (mkM R C f) l) w) := by
  have HI := hide hin; have H := hide hI
  obtain ⟨la, lc, rfl, hm, hp⟩ := hl
  have HP := hide hp
  unfold maxLen at hm
  obtain ⟨n, hn⟩ : ∃ n, n = l.length := ⟨_, rfl⟩
  have HN := hide hn
  rw [← hn] at hm h60 ⊢
  have h60I : (n : Int) ≤ 60 := by omega
  clear hin hI hp hn
  go_enter Try.func33, Try.ntmps33
  go_wp2_with (first | ((with_reducible refine (imageOf_yes v R C f _ HI.out H.out).mono ?_); rintro e w1 ⟨rfl, b1⟩) | ((with_reducible refine wpList_allocVec 25 6 rfl rfl rfl Try.zeroImg ?_); intro w2 h2 b2 s2; have hb := b1.trans (b2.mono b1.size)) | ((with_reducible refine wpList_storeVec h2 rfl (.tmp 6) (.tmp 13) rfl rfl rfl Try.sizeImg ?_); intro w3 h3 g3 s3; have HB := hide (hb.trans (grown_below g3 (fun k hk => by cases hk; exact b1.size) hb.size))))
  have HF := hide h3
  have hp0 := b1.size
  obtain ⟨p, hp⟩ : ∃ p, p = w1.heap.size := ⟨_, rfl⟩
  rw [← hp] at HF hp0 ⊢
  clear b1 h2 b2 s2 hb h3 g3 s3 hp
  go_loopw [24] (fun t w' => ∃ (k : Nat) (fk : Nat → Nat → Int), k ≤ n ∧ t = .int .i64 k ∧ Img R C fk ∧ goM (mkM R C f) (l.take k) = some (mkM R C fk) ∧ Blk w' p 78 25 (imgF R C fk) ∧ Below w.heap.size w w') (fun t _ => n - (intOf t).toNat)
  case atStart => exact ⟨0, f, by omega, rfl, H.out, by rw [List.take_zero]; rfl, HF.out, HB.out⟩
  case round =>
    clear HF HB
    obtain ⟨k, fk, hk, rfl, hik, hgo, hf, hb⟩ := hrel
    have HIK := hide hik; have HGO := hide hgo; have HF := hide hf; have HB := hide hb
    clear hik hgo hf hb
    by_cases hlt : k < n
    · have hltI : (k : Int) < n := by omega
      have hkl : k < l.length := by rw [← HN.out]; exact hlt
      obtain ⟨gl, ol, rfl, hgl, hcl⟩ := HP.out.resolve_left (by omega)
      have HC := hide (swC_below (hcl k hkl) HB.out hgl)
      have HT := hide fun h => goM_take hkl HGO.out h
      have HST := hide fun h => goM_stop hkl HGO.out h
      obtain ⟨s, hs⟩ : ∃ s, s = l[k] := ⟨_, rfl⟩
      rw [← hs] at HC HT HST
      clear hs hcl
      cases hsb : swF R C fk s with
      | false =>
        have HSB := hide (show hasF (imgF R C fk) s = false by rw [hasF_img HIK.out, hsb])
        have HNN := hide (app_none (by rw [← HN.out]; exact h60) (HST.out (by rw [swB_mk HIK.out, hsb])))
        clear hsb
        go_wp2_with (first | (with_reducible refine wpList_loadSwC HC.out 27 rfl rfl _ rfl rfl ?_) | ((with_reducible refine wpList_allocSw 9 rfl rfl rfl ?_); intro w7 h7 b7 s7) | ((refine wpList_storeSw h7 s rfl (.tmp 9) (.tmp 27) rfl rfl rfl ?_); intro w8 h8 g8 s8; have b8 := b7.trans (grown_below g8 (fun k hk => by cases hk; exact Nat.le_refl _) b7.size); have HF1 := hide (blk_below HF.out b8); have HB1 := hide (HB.out.trans (b8.mono HB.out.size)); clear h7 b7 s7 g8 s8 b8) | (with_reducible refine wpList_loadVec HF1.out 28 rfl rfl _ rfl rfl Try.underlying78 Try.sizeImg ?_) | (with_reducible refine wpList_loadSwC (swC_at h8) 29 rfl rfl _ rfl rfl ?_) | ((with_reducible refine (hasSwitch_any (imgF R C fk) s _).mono ?_); rw [HSB.out]; rintro e w9 ⟨rfl, b9⟩; replace HF1 := hide (blk_below HF1.out b9); have h9 := swAt_below h8 b9; replace HB1 := hide (HB1.out.trans (b9.mono HB1.out.size)); clear h8 b9) | (with_reducible refine wpList_loadVec HF1.out 32 rfl rfl _ rfl rfl Try.underlying78 Try.sizeImg ?_) | (with_reducible refine wpList_loadSwC (swC_at h9) 33 rfl rfl _ rfl rfl ?_) | ((with_reducible refine (switched_img R C fk s _ HIK.out HSF.out).mono ?_); rintro e wa ⟨rfl, b10⟩; replace HF1 := hide (blk_below HF1.out b10); replace HB1 := hide (HB1.out.trans (b10.mono HB1.out.size)); clear b10) | ((with_reducible refine wpList_storeVec HF1.out rfl (.tmp 6) (.tmp 34) rfl rfl rfl Try.sizeImg ?_); intro wb ha gb sb; have HB2 := hide (HB1.out.trans (grown_below gb (fun k hk => by cases hk; exact hp0) HB1.out.size))))
        go_ret2
        rw [HNN.out.1, HNN.out.2]
        exact matRes2_nil HB1.out
      | true =>
        have HSB := hide (show hasF (imgF R C fk) s = true by rw [hasF_img HIK.out, hsb])
        have HSF := hide hsb
        have HTT := hide (HT.out (by rw [swB_mk HIK.out, hsb]))
        rw [flipM_mk HIK.out] at HTT
        clear hsb
        go_wp2_with (first | (with_reducible refine wpList_loadSwC HC.out 27 rfl rfl _ rfl rfl ?_) | ((with_reducible refine wpList_allocSw 9 rfl rfl rfl ?_); intro w7 h7 b7 s7) | ((refine wpList_storeSw h7 s rfl (.tmp 9) (.tmp 27) rfl rfl rfl ?_); intro w8 h8 g8 s8; have b8 := b7.trans (grown_below g8 (fun k hk => by cases hk; exact Nat.le_refl _) b7.size); have HF1 := hide (blk_below HF.out b8); have HB1 := hide (HB.out.trans (b8.mono HB.out.size)); clear h7 b7 s7 g8 s8 b8) | (with_reducible refine wpList_loadVec HF1.out 28 rfl rfl _ rfl rfl Try.underlying78 Try.sizeImg ?_) | (with_reducible refine wpList_loadSwC (swC_at h8) 29 rfl rfl _ rfl rfl ?_) | ((with_reducible refine (hasSwitch_any (imgF R C fk) s _).mono ?_); rw [HSB.out]; rintro e w9 ⟨rfl, b9⟩; replace HF1 := hide (blk_below HF1.out b9); have h9 := swAt_below h8 b9; replace HB1 := hide (HB1.out.trans (b9.mono HB1.out.size)); clear h8 b9) | (with_reducible refine wpList_loadVec HF1.out 32 rfl rfl _ rfl rfl Try.underlying78 Try.sizeImg ?_) | (with_reducible refine wpList_loadSwC (swC_at h9) 33 rfl rfl _ rfl rfl ?_) | ((with_reducible refine (switched_img R C fk s _ HIK.out HSF.out).mono ?_); rintro e wa ⟨rfl, b10⟩; replace HF1 := hide (blk_below HF1.out b10); replace HB1 := hide (HB1.out.trans (b10.mono HB1.out.size)); clear b10) | ((with_reducible refine wpList_storeVec HF1.out rfl (.tmp 6) (.tmp 34) rfl rfl rfl Try.sizeImg ?_); intro wb ha gb sb; have HB2 := hide (HB1.out.trans (grown_below gb (fun k hk => by cases hk; exact hp0) HB1.out.size))))
        go_roundw
        case rel => exact ⟨k + 1, flipF fk s, by omega, by go_num, flipF_img HIK.out s, HTT.out, ha, HB2.out⟩
        case measure => simp [intOf]; omega
    · obtain rfl : k = n := by omega
      have HSO := hide (app_some (by rw [← HN.out]; exact h60) (goM_full (by rw [← HN.out]; exact HGO.out)))
      go_wp2_with (first | (with_reducible refine wpList_loadVec HF.out 36 rfl rfl _ rfl rfl Try.underlying78 Try.sizeImg ?_) | ((with_reducible refine (lists_any R C fk _ HIK.out).mono ?_); rintro e w5 ⟨u, rfl, hu, b5⟩))
      go_ret2
      rw [HSO.out.1, HSO.out.2]
      exact ⟨_, rfl, ownMat_mono hu HB.out.size (Nat.le_refl _), HB.out.trans (b5.mono HB.out.size)⟩
def appRowsB (m : List (List Int)) (l : List Sw) : List (List Int) := if okB m then appRows m l else []
def appOkB (m : List (List Int)) (l : List Sw) : Bool := okB m && appOk m l
theorem implApplyAll_any (v lv : Value) (m : List (List Int)) (l : List Sw) (w : World) (hin : InMat w v m) (hl : InSws w lv l) :
    Calls Try.prog 33 #[v, lv] w (MatRes2 (appRowsB m l) (appOkB m l) w) := by
  unfold appRowsB appOkB
  cases h : okB m with
  | false => exact implApplyAll_no v lv m l w hin hl h
  | true =>
    obtain ⟨R, C, f, rfl, hI⟩ := ok_img h
    rw [Bool.true_and, if_pos rfl]
    by_cases h60 : l.length ≤ 60
    · exact implApplyAll_yes v lv R C f l w hin hI hl h60
    · have := app_long (m := mkM R C f) (l := l) (by omega)
      rw [this.1, this.2]
      exact implApplyAll_long v lv R C f l w hin hI hl (by omega)
theorem inSws_one {w : World} {g : Nat} {s : Sw} (h : SwAt w g s) : InSws w (.slice (some ⟨g, 0, none⟩) 1 1) [s] :=
  ⟨_, 1, rfl, by simp [maxLen], .inr ⟨g, 0, rfl, swAt_lt h, fun i hi => by
    obtain rfl : i = 0 := by simp at hi; omega
    exact swC_at h⟩⟩
set_option maxHeartbeats 1000000 in
theorem implApplySwitch_any (v : Value) (m : List (List Int)) (s : Sw) (w : World) (hin : InMat w v m) :
    Calls Try.prog 32 #[v, swV s] w (MatRes2 (appRowsB m [s]) (appOkB m [s]) w) := by
  have HI := hide hin
  clear hin
  go_enter Try.func32, Try.ntmps32
  go_wp2_with (first | ((with_reducible refine wpList_boxSw s 3 rfl rfl (.tmp 1) rfl rfl ?_); intro w2 h2 b2 s2; clear s2) | (with_reducible refine wpList_loadSwC (swC_at h2) 7 rfl rfl _ rfl rfl ?_) | (refine wpList_buildOneA (swA s) _ 8 rfl rfl (.tmp 7) rfl rfl Try.underlying40 Try.infoSw (by decide) (by decide) rfl ?_; have hal := (Below.refl w2.heap.size w2).alloc (Nat.le_refl _) (.cells (swA s) 45); have HL := hide (inSws_one (swAt_new w2 s)); have HB := hide (b2.trans (hal.mono b2.size)); have HI2 := hide (inMat_below HI.out HB.out); clear hal h2) | ((with_reducible refine (implApplyAll_any v _ m [s] _ HI2.out HL.out).mono ?_); rintro e w4 ⟨u, rfl, hu, b4⟩))
  go_ret2
  exact ⟨_, rfl, ownMat_mono hu HB.out.size (Nat.le_refl _), HB.out.trans (b4.mono HB.out.size)⟩
def swsOf (m : List (List Int)) : List Sw := if okB m then swsM m else []
set_option maxHeartbeats 1000000 in
theorem implSwitchesOf_any (v : Value) (m : List (List Int)) (w : World) (hin : InMat w v m) : Calls Try.prog 102 #[v] w (SwsRes (swsOf m) w) := by
  have HI := hide hin
  unfold swsOf
  cases h : okB m with
  | false =>
    have H := hide h
    clear hin h
    go_enter Try.func102, Try.ntmps102
    go_wp2_with (first | ((with_reducible refine (imageOf_no v m _ HI.out H.out).mono ?_); rintro e w3 ⟨rfl, b3⟩) | ((with_reducible refine wpList_allocVec 25 3 rfl rfl rfl Try.zeroImg ?_); intro w4 h4 b4 s4; have hb := b3.trans (b4.mono b3.size)) | ((with_reducible refine wpList_storeVec h4 rfl (.tmp 3) (.tmp 8) rfl rfl rfl Try.sizeImg ?_); intro w5 h5 g5 s5; have hb5 := hb.trans (grown_below g5 (fun k hk => by cases hk; exact b3.size) hb.size)))
    go_ret
    exact ⟨_, rfl, ownSws_nil _ _, hb5⟩
  | true =>
    obtain ⟨R, C, f, rfl, hI⟩ := ok_img h
    have HII := hide hI
    clear hin h hI
    go_enter Try.func102, Try.ntmps102
    go_wp2_with (first | ((with_reducible refine (imageOf_yes v R C f _ HI.out HII.out).mono ?_); rintro e w3 ⟨rfl, b3⟩) | ((with_reducible refine wpList_allocVec 25 3 rfl rfl rfl Try.zeroImg ?_); intro w4 h4 b4 s4; have hb := b3.trans (b4.mono b3.size)) | ((with_reducible refine wpList_storeVec h4 rfl (.tmp 3) (.tmp 8) rfl rfl rfl Try.sizeImg ?_); intro w5 h5 g5 s5; have hb5 := hb.trans (grown_below g5 (fun k hk => by cases hk; exact b3.size) hb.size)) | (with_reducible refine wpList_loadVec h5 12 rfl rfl _ rfl rfl Try.underlying78 Try.sizeImg ?_) | ((with_reducible refine (switches_any R C f _ HII.out).mono ?_); rintro e w6 ⟨u, rfl, hu, b6⟩))
    go_ret
    exact ⟨_, rfl, ownSws_base hu hb5.size, hb5.trans (b6.mono hb5.size)⟩
def uniqB (m : List (List Int)) : Bool := okB m && (swsM m).isEmpty
set_option maxHeartbeats 1000000 in
theorem implIsUnique_any (v : Value) (m : List (List Int)) (w : World) (hin : InMat w v m) : Calls Try.prog 50 #[v] w fun e w' => e = .returned (.bool (uniqB m)) ∧ Below w.heap.size w w' := by
  have HI := hide hin
  unfold uniqB
  cases h : okB m with
  | false =>
    have H := hide h
    clear hin h
    go_enter Try.func50, Try.ntmps50
    go_wp2_with ((with_reducible refine (implImageOk_any v m _ HI.out).mono ?_); rw [H.out]; rintro e w3 ⟨rfl, rfl⟩)
    go_ret
    exact ⟨rfl, Below.refl _ _⟩
  | true =>
    have H := hide h
    have HS := hide (show swsOf m = swsM m by unfold swsOf; rw [h]; rfl)
    have HL := hide (show (swsM m).length ≤ 625 from upS_len m 625)
    clear hin h
    obtain ⟨l, hl⟩ : ∃ l, l = swsM m := ⟨_, rfl⟩
    rw [← hl] at HS HL ⊢
    clear hl
    go_enter Try.func50, Try.ntmps50
    go_wp2_with (first | ((with_reducible refine (implImageOk_any v m _ HI.out).mono ?_); rw [H.out]; rintro e w3 ⟨rfl, rfl⟩) | ((with_reducible refine (implSwitchesOf_any v m _ HI.out).mono ?_); rw [HS.out]; rintro e w6 ⟨u, rfl, hu, b6⟩; obtain ⟨ua, uc, rfl⟩ := ownA_slice hu; clear hu))
    go_ret
    exact ⟨ret_bool (by cases l <;> simp <;> omega), b6⟩
end Go.Proofs.Ytcliiefedmiokaa
/-
  ApplyAll, ApplySwitch, IsUnique of the model.
-/
namespace Go.Proofs.Ytcliiefedmiokaa
open Go.RowKit

theorem specSwitchOk_any (v : Value) (m : List (List Int)) (s : Sw) (w : World) (hin : InMat w v m) :
    Calls Try.prog 114 #[v, swV s] w fun e w' => e = .returned (.bool (okB m && swB m s)) ∧ Below w.heap.size w w' := by
  cases h : okB m with
  | false => exact specSwitchOk_no v m s w hin h
  | true =>
    obtain ⟨R, C, f, rfl, hI⟩ := ok_img h
    rw [Bool.true_and, swB_mk hI]
    exact specSwitchOk_img v R C f s w hin hI
theorem specSwitchesOf_any (v : Value) (m : List (List Int)) (w : World) (hin : InMat w v m) : Calls Try.prog 72 #[v] w (SwsRes (swsOf m) w) := by
  unfold swsOf
  cases h : okB m with
  | false => exact specSwitchesOf_no v m w hin h
  | true =>
    obtain ⟨R, C, f, rfl, hI⟩ := ok_img h
    exact specSwitchesOf_yes v R C f w hin hI
theorem appRows_one {R C : Nat} {f : Nat → Nat → Int} (hI : Img R C f) (s : Sw) : appRows (mkM R C f) [s] = (if swB (mkM R C f) s then mkM R C (flipF f s) else []) ∧ appOk (mkM R C f) [s] = swB (mkM R C f) s := by
  unfold appRows appOk
  simp only [List.length_cons, List.length_nil, goM]
  cases swB (mkM R C f) s with
  | false => exact ⟨rfl, rfl⟩
  | true => rw [flipM_mk hI]; exact ⟨rfl, rfl⟩
end Go.Proofs.Ytcliiefedmiokaa
/-
  Switches that a call owns, from one block up to another; what lies within.
-/
namespace Go.Proofs.Ytcliiefedmiokaa
open Go.RowKit

theorem ownA_within {lo hi base e n z : Nat} {w w' : World} {v : Value} {xs : List Value} (h : w.ownsRow base e z v n xs) (hw : Within lo hi w w') (hk : ∀ k, v.ownBlock = some k → k < lo ∨ hi ≤ k) : w'.ownsRow base e z v n xs := by
  refine ⟨h.1, ?_⟩
  rcases h.2 with hn | ⟨g, cap, cur, rfl, hbg, hg, r⟩
  · exact .inl hn
  · exact .inr ⟨g, cap, cur, rfl, hbg, by rw [hw.block g (Array.getElem?_eq_some_iff.1 hg).1 (hk g rfl)]; exact hg, r⟩
/-- Switches of the call's own, in a block from lo up to hi. -/
def OwnS2 (w : World) (lo hi : Nat) (v : Value) (l : List Sw) : Prop := OwnSws w lo v l ∧ ∀ k, v.ownBlock = some k → k < hi
theorem ownS2_of {w : World} {lo : Nat} {v : Value} {l : List Sw} (h : OwnSws w lo v l) : OwnS2 w lo w.heap.size v l := ⟨h, fun k e => (World.ownsRow.lt h k e).2⟩
theorem ownS2_below {w w' : World} {lo hi : Nat} {v : Value} {l : List Sw} (h : OwnS2 w lo hi v l) (hb : Below w.heap.size w w') : OwnS2 w' lo hi v l := ⟨ownSws_below h.1 hb, h.2⟩
theorem ownS2_within {w w' : World} {lo hi lo' hi' : Nat} {v : Value} {l : List Sw} (h : OwnS2 w lo hi v l) (hw : Within lo' hi' w w') (ha : hi ≤ lo' ∨ hi' ≤ lo) : OwnS2 w' lo hi v l :=
  ⟨ownA_within h.1 hw fun k e => by have := h.2 k e; have := (World.ownsRow.lt h.1 k e).1; omega, h.2⟩
theorem within_own {w w' : World} {lo hi : Nat} {v : Value} {l : List Sw} (h : OwnS2 w lo hi v l) (hg : w.grownBy w' v.ownBlock) : Within lo hi w w' := within_grown hg fun k e => ⟨(World.ownsRow.lt h.1 k e).1, h.2 k e⟩
end Go.Proofs.Ytcliiefedmiokaa
/-
  The exact laws on IsUnique, SwitchesOf, ApplyAll, walked.
-/
namespace Go.Proofs.Ytcliiefedmiokaa
open Go.RowKit
set_option linter.unusedVariables false

theorem swsOf_len (m : List (List Int)) : (swsOf m).length ≤ 625 := by
  unfold swsOf
  split
  · exact upS_len m 625
  · exact Nat.zero_le _
theorem goM_shape {R C : Nat} {m t : List (List Int)} {l : List Sw} (hm : Node R C m) (h : goM m l = some t) : t.length + cellsM t ≤ 30 := by
  obtain ⟨f, rfl, hI⟩ := goM_node hm h
  rw [mkM_len, cells_mkM]
  have h1 := hI.r2; have h2 := hI.c2
  have : R * C ≤ 5 * 5 := Nat.mul_le_mul h1 h2
  omega
theorem appRowsB_len (m : List (List Int)) (l : List Sw) : (appRowsB m l).length + cellsM (appRowsB m l) ≤ 1000000 := by
  unfold appRowsB appRows
  cases h : okB m with
  | false => simp [cellsM]
  | true =>
    obtain ⟨R, C, f, rfl, hI⟩ := ok_img h
    rw [if_pos rfl]
    split
    · cases hg : goM (mkM R C f) l with
      | none => simp [cellsM]
      | some t => have := goM_shape ⟨f, rfl, hI⟩ hg; simp only [Option.getD_some]; omega
    · simp [cellsM]
end Go.Proofs.Ytcliiefedmiokaa
