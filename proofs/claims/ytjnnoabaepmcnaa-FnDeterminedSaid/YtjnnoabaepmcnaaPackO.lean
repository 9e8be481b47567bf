/-
  Texts of this claim, one behind the other: FnGhR, FnDetR.
-/
import Derived.Test.YtjnnoabaepmcnaaPackK
import Derived.Test.YtjnnoabaepmcnaaPackL
import Derived.Test.YtjnnoabaepmcnaaPackG
import Derived.Test.YtjnnoabaepmcnaaPackD
import Derived.Test.YtjnnoabaepmcnaaPackM
import Derived.Test.YtjnnoabaepmcnaaPackN
import Derived.Test.YtjnnoabaepmcnaaPackE
import Derived.Test.YtjnnoabaepmcnaaPackF
import Derived.Test.YtjnnoabaepmcnaaPackI
/-
  The law FnGhosts, walked out of a contract of the model's maker of directions.
-/
namespace Go.Proofs.Ytjnnoabaepmcnaa
open Go.RowKit Go.Katz
set_option maxRecDepth 100000

theorem obt_call_2 {P : Program} {Q : Exit → Act → World → Prop} {base : List (Tmp × Value)} {dsts : List (Option Tmp)} {S : World → Prop} {fs : List FactP} {i : Nat} {o : Oper} {f : FuncId} {d e : Tmp} {ts : Array TypeId} {fn : Func} (hst : ∀ f ∈ fs, StableP f) (j k : Nat) (ho : o.op = .call { callee := .value (.func f), args := #[.tmp d, .tmp e], argTypes := ts }) (hfn : P.funcs[f]? = some fn) (hn : (fn.name == "runtime.NumGoroutine") = false) (hb : fn.body.isSome = true)
    (hg : o.guard = none) (h1 : dsts[j]? = some (some d)) (h2 : depT o j = true) (k1 : dsts[k]? = some (some e)) (k2 : depT o k = true)
    (hc : ∀ v u w, S w → factP fs j v w → factP fs k u w → Calls P f #[v, u] w fun e w' => ∃ r, e = .returned r ∧ S w' ∧ Below w.heap.size w w' ∧ factP fs i r w') : Obt P Q base dsts S fs i o :=
  fun a w hS _ hD K hK => ⟨.inl hg, run_call ho hfn hn hb #[a.tmps.getD d undef, a.tmps.getD e undef] (by simp only [List.map_toArray, List.map_cons, List.map_nil]; rfl) ((hc _ _ w hS (hD j d h1 h2) (hD k e k1 k2)).mono fun e w' ⟨v, he, g1, g2, g3⟩ => ⟨v, he, hK _ _ g1 (fun j u h => stable_all hst j u _ _ g2 h) g3⟩)⟩
theorem nil_len {w : World} {lo hi n c : Nat} {a : Option Addr} (h : OwnMat w lo hi (.slice a n c) []) : n = 0 := by
  obtain ⟨vs, ho, -⟩ := h
  rcases ho.2 with ⟨e, -⟩ | ⟨g', cap', cur, e, _⟩
  · cases e; rfl
  · cases e; rfl
theorem img_of_ok2 {R C : Nat} {f : Nat → Nat → Int} (hR : 1 ≤ R ∧ R ≤ 5) (hC : 1 ≤ C ∧ C ≤ 5) (h : okB (mkM R C f) = true) : Img R C f := by
  have hI := okB_elM h
  have hw := width_mkM (C := C) (f := f) (show 0 < R by omega)
  rw [hw, mkM_len] at hI
  refine ⟨hR.1, hR.2, hC.1, hC.2, fun y x hy hx => ?_⟩
  have e : elM (mkM R C f) y x = f y x := elM_mk hy hx
  rw [← e]; exact hI.cell y x hy hx
set_option maxHeartbeats 16000000 in
theorem lawGhosts_gen (a : Option Addr) (n c : Nat) (w : World) (hin : InBytes w w.heap.size a n) (hmd : n ≤ 1048576 → Calls Try.prog 8 #[.slice a n c, .int .i64 20] w (DirsRes w)) :
    Calls Try.prog 4 #[.slice a n c] w fun e w' => e = .returned (.bool true) ∧ Below w.heap.size w w' := by
  have HIN := hide hin
  clear hin
  by_cases hbig : (1048576 : Int) < n
  · clear hmd
    go_enter Try.func4, Try.ntmps4
    go_wp2
    go_ret
    exact ⟨rfl, Below.refl _ _⟩
  have HMD := hide (hmd (by omega))
  have HN := hide (show n ≤ 2000000 by omega)
  clear hmd
  go_enter Try.func4, Try.ntmps4
  go_wp2_with fail
  refine HMD.out.mono ?_
  rintro e w1 ⟨v, l, rfl, hd, hdc, hb⟩
  have HD := hide hd; have HB := hide hb; have HL := hide hdc
  have hrg := up_range l (dirsB_near hd)
  have hlen := dirsB_len hd
  have HZR : Hid (gzR l = 1 + Katz.upI l ∧ gzC l = 1 + Katz.overI l) := hide (by rw [gzR, gzC, if_pos hd, if_pos hd]; exact ⟨rfl, rfl⟩)
  obtain ⟨U, hU⟩ : ∃ U, U = gzR l := ⟨_, rfl⟩
  obtain ⟨V, hV⟩ : ∃ V, V = gzC l := ⟨_, rfl⟩
  have hu1 : 1 ≤ U ∧ U ≤ 13 := by rw [hU, HZR.out.1]; omega
  have hv1 : 1 ≤ V ∧ V ≤ 13 := by rw [hV, HZR.out.2]; omega
  have HBG : Hid (bgB l = sizeOk U V) := hide (by rw [bgB, hd, hU, hV, HZR.out.1, HZR.out.2]; rfl)
  have HUV := hide (And.intro hU hV)
  obtain ⟨hu, hu13⟩ := hu1
  obtain ⟨hv, hv13⟩ := hv1
  have HC := hide hdc
  obtain ⟨la, lc, rfl, -, hlm, hlp⟩ := hdc
  have HLP := hide hlp
  obtain ⟨N, hNl⟩ : ∃ N, N = l.length := ⟨_, rfl⟩
  have HNL := hide hNl
  rw [← hNl] at HL HC hlen ⊢
  clear hd hb hlp hlm hrg hNl
  cases hok : bgB l with
  | false =>
    have HE : Hid (bgM l = [] ∧ bgB l = false) := hide (by rw [bgM, hok]; exact ⟨rfl, rfl⟩)
    rw [HBG.out] at hok
    by_cases h5 : U ≤ 5
    · have h6 : ¬ V ≤ 5 := fun h6 => by
        rw [sizeOk, decide_eq_true (show 1 ≤ U ∧ U ≤ 5 by omega), decide_eq_true (show 1 ≤ V ∧ V ≤ 5 by omega)] at hok
        cases hok
      clear hU hV hok
      go_wp2_with (first | ((with_reducible refine (implBasicGhost_any _ l _ HL.out).mono ?_); rw [HE.out.1, HE.out.2]; rintro e w2 ⟨g, rfl, ho, hb⟩; have HO := hide ho; obtain ⟨ga, gn, gc, rfl⟩ := ownMat_slice ho; obtain rfl : gn = 0 := nil_len ho; have HL2 := hide (drsC_below HL.out hb); have HB2 := hide (HB.out.trans (hb.mono HB.out.size)); clear ho hb) | ((with_reducible refine (implGhostSize_any _ l _ HL2.out).mono ?_); rw [← HUV.out.1, ← HUV.out.2]; rintro e w3 ⟨rfl, hb⟩; have HL3 := hide (drsC_below HL2.out hb); have HB3 := hide (HB2.out.trans (hb.mono HB2.out.size)); clear hb) | ((with_reducible refine (implDirsOk_any _ l _ HL3.out).mono ?_); rw [HD.out]; rintro e w4 ⟨rfl, hb⟩; have HB4 := hide (HB3.out.trans (hb.mono HB3.out.size)); clear hb))
      go_ret
      exact ⟨rfl, HB4.out⟩
    · clear hU hV hok
      go_wp2_with (first | ((with_reducible refine (implBasicGhost_any _ l _ HL.out).mono ?_); rw [HE.out.1, HE.out.2]; rintro e w2 ⟨g, rfl, ho, hb⟩; have HO := hide ho; obtain ⟨ga, gn, gc, rfl⟩ := ownMat_slice ho; obtain rfl : gn = 0 := nil_len ho; have HL2 := hide (drsC_below HL.out hb); have HB2 := hide (HB.out.trans (hb.mono HB.out.size)); clear ho hb) | ((with_reducible refine (implGhostSize_any _ l _ HL2.out).mono ?_); rw [← HUV.out.1, ← HUV.out.2]; rintro e w3 ⟨rfl, hb⟩; have HL3 := hide (drsC_below HL2.out hb); have HB3 := hide (HB2.out.trans (hb.mono HB2.out.size)); clear hb) | ((with_reducible refine (implDirsOk_any _ l _ HL3.out).mono ?_); rw [HD.out]; rintro e w4 ⟨rfl, hb⟩; have HB4 := hide (HB3.out.trans (hb.mono HB3.out.size)); clear hb))
      go_ret
      exact ⟨rfl, HB4.out⟩
  | true =>
    obtain ⟨-, hgr, hgc, hR, hC⟩ := bg_size hok
    have HIS := hide (ghost_is hok)
    have HADF := hide fun (f : Nat → Nat → Int) (hI : Img (ghG l).R (ghG l).C f) => ghost_add hok hI
    have HSAME := hide fun (d : Int × Int) (hd : d ∈ l) (f : Nat → Nat → Int) (M : Nat) => ghost_same HD.out hd f M
    have HDIF := hide fun f => ghost_differs HD.out f
    have HDET := hide (det_size hok)
    have HE : Hid (bgM l = mkM (ghG l).R (ghG l).C (ghG l).f ∧ bgB l = true) := hide (by rw [bgM, if_pos hok]; exact ⟨rfl, hok⟩)
    obtain ⟨R, hRe⟩ : ∃ R, R = (ghG l).R := ⟨_, rfl⟩
    obtain ⟨C, hCe⟩ : ∃ C, C = (ghG l).C := ⟨_, rfl⟩
    obtain ⟨G, hGe⟩ : ∃ G, G = (ghG l).f := ⟨_, rfl⟩
    rw [← hRe, ← hCe, ← hGe] at HIS HADF HSAME HDIF HE
    rw [← hRe] at hgr hR
    rw [← hCe] at hgc hC
    have HRC := hide (And.intro hR hC)
    obtain rfl : U = (R : Int) := by rw [hU, hgr]
    obtain rfl : V = (C : Int) := by rw [hV, hgc]
    rw [← hU, ← hV] at HDET
    have r5 : (R : Int) ≤ 5 := by omega
    have c5 : (C : Int) ≤ 5 := by omega
    have hRp : 0 < R := by omega
    clear hU hV hgr hgc hRe hCe hGe hok hR hC
    go_wp2_with (first | ((with_reducible refine (implBasicGhost_any _ l _ HL.out).mono ?_); rw [HE.out.1, HE.out.2]; rintro e w2 ⟨g, rfl, ho, hb⟩; have HG2 := hide (inMat_own ho); obtain ⟨gg, og, cg, rfl, hgg, hrow⟩ := inMat_img HG2.out (by omega) (by omega); obtain ⟨g0, o0, k0, hc0, -, -⟩ := hrow 0 hRp; rw [Nat.add_zero] at hc0; have HC0 := hide hc0; have HGG := hide hgg; have HL2 := hide (drsC_below HL.out hb); have HB2 := hide (HB.out.trans (hb.mono HB.out.size)); clear ho hb hrow hc0 hgg) | ((with_reducible refine (implGhostSize_any _ l _ HL2.out).mono ?_); rw [← HUV.out.1, ← HUV.out.2]; rintro e w3 ⟨rfl, hb⟩; have HG3 := hide (inMat_below HG2.out hb); have HL3 := hide (drsC_below HL2.out hb); have HB3 := hide (HB2.out.trans (hb.mono HB2.out.size)); have HK3 := hide hb; clear hb) | ((with_reducible refine (implDirsOk_any _ l _ HL3.out).mono ?_); rw [HD.out]; rintro e w4 ⟨rfl, hb⟩; have HG4 := hide (inMat_below HG3.out hb); have HL4 := hide (drsC_below HL3.out hb); have HB4 := hide (HB3.out.trans (hb.mono HB3.out.size)); have hcell := below_cell (HK3.out.trans (hb.mono HK3.out.size)) HGG.out HC0.out; clear hb) | ((with_reducible refine (implIsGhost_any _ _ _ l _ HG4.out HL4.out).mono ?_); rw [HIS.out]; rintro e w5 ⟨rfl, hb⟩; have HG5 := hide (inMat_below HG4.out hb); have HL5 := hide (drsC_below HL4.out hb); have HB5 := hide (HB4.out.trans (hb.mono HB4.out.size)); clear hb hcell) | ((with_reducible refine (implDet_any R C _ l _ HL5.out).mono ?_); rw [HDET.out]; rintro e w6 ⟨rfl, hb⟩; have HG6 := hide (inMat_below HG5.out hb); have HL6 := hide (drsC_below HL5.out hb); have HB6 := hide (HB5.out.trans (hb.mono HB5.out.size)); clear hb))
    refine (makeSized_any n c a 40 R C _ w.heap.size (inBytes_below HIN.out HB6.out) HN.out (by omega) HRC.out.1 HRC.out.2).mono ?_
    rintro e w7 ⟨v8, f, rfl, hI, ho, hb⟩
    have HIM := hide hI; have HM7 := hide (inMat_own ho)
    obtain ⟨ma, mn, mc, rfl⟩ := ownMat_slice ho
    have HG7 := hide (inMat_below HG6.out hb); have HL7 := hide (drsC_below HL6.out hb); have HB7 := hide (HB6.out.trans (hb.mono HB6.out.size))
    clear hI ho hb
    go_wp2_with fail
    refine (implAddGhost_any _ _ _ _ 0 0 _ HM7.out HG7.out).mono ?_
    obtain ⟨b, hb⟩ : ∃ b, b = okB (mkM R C (plusF f G)) := ⟨_, rfl⟩
    have HOB := hide hb
    rw [aghM, (HADF.out f HIM.out).2, (HADF.out f HIM.out).1, ← hb]
    clear hb
    cases b with
    | false =>
      rintro e w8 ⟨x, rfl, ho, hb⟩
      obtain ⟨xa, xn, xc, rfl⟩ := ownMat_slice ho
      obtain rfl : xn = 0 := nil_len ho
      have HB8 := hide (HB7.out.trans (hb.mono HB7.out.size))
      clear ho hb
      go_wp2
      go_ret
      exact ⟨rfl, HB8.out⟩
    | true =>
      rintro e w8 ⟨x, rfl, ho, hb⟩
      obtain ⟨xa, xn, xc, rfl⟩ := ownMat_slice ho
      have HX8 := hide (show InMat w8 (.slice xa xn xc) (mkM R C (plusF f G)) from inMat_own ho)
      have HM8 := hide (inMat_below HM7.out hb)
      have HL8 := hide (drsC_below HL7.out hb)
      have HB8 := hide (HB7.out.trans (hb.mono HB7.out.size))
      have HIX := hide (img_of_ok2 HRC.out.1 HRC.out.2 HOB.out.symm)
      clear ho hb
      go_wp2
      go_loopw [95] (fun i w' => ∃ k : Nat, k ≤ N ∧ i = .int .i64 k ∧ Below w8.heap.size w8 w') (fun i _ => N - (intOf i).toNat)
      case atStart => exact ⟨0, Nat.zero_le _, rfl, Below.refl _ _⟩
      case round =>
        obtain ⟨wo, rfl⟩ : ∃ wo, wo = wr := ⟨_, rfl⟩
        obtain ⟨k, hk, rfl, hbo⟩ := hrel
        have HBO := hide hbo
        clear hbo
        by_cases hlk : k < N
        · have hlkI : (k : Int) < N := by omega
          have hkl : k < l.length := by rw [← HNL.out]; exact hlk
          obtain ⟨a', c', he, -, -, hp⟩ := HL8.out
          rw [← HNL.out] at he
          cases he
          obtain ⟨gl, ol, rfl, hgl, hdr⟩ := hp.resolve_left (by omega)
          have HDR := hide (drC_below (hdr k hkl) HBO.out hgl)
          have hdok := (dirsB_at HD.out hkl).1
          have hdm : l[k] ∈ l := List.getElem_mem hkl
          obtain ⟨d, hd⟩ : ∃ d, d = l[k] := ⟨_, rfl⟩
          rw [← hd] at HDR hdok hdm
          obtain ⟨dx, dy⟩ := d
          obtain ⟨c0, c1⟩ := HDR.out
          simp only at c0 c1 hdok
          obtain ⟨M, hM, hM41⟩ := countL_size (near_of hdok) HRC.out.1 HRC.out.2
          obtain ⟨LR, hLR⟩ : ∃ LR, LR = lineRow R C f dx dy M := ⟨_, rfl⟩
          have hLX : lineRow R C (plusF f G) dx dy M = LR := by rw [hLR, ← lineRow_img HIX.out, ← lineRow_img HIM.out, HSAME.out (dx, dy) hdm]
          have HLX := hide fun (w2 : World) (hb : Below w8.heap.size w8 w2) => implLineSums_yes (.slice xa xn xc) R C M (plusF f G) dx dy w2 (inMat_below HX8.out hb) HIX.out hdok hM hM41
          have HLM := hide fun (w2 : World) (hb : Below w8.heap.size w8 w2) => implLineSums_yes (.slice ma mn mc) R C M f dx dy w2 (inMat_below HM8.out hb) HIM.out hdok hM hM41
          rw [hLX] at HLX
          rw [← hLR] at HLM
          have HAL := hide ((Below.refl wo.heap.size wo).alloc (Nat.le_refl _) (.cells #[.int .i64 dx, .int .i64 dy] 29))
          have HD1 := hide (show DirAt (wo.alloc (.cells #[.int .i64 dx, .int .i64 dy] 29)) wo.heap.size dx dy from heap_alloc_new wo _)
          have HB1 := hide (HBO.out.trans (HAL.out.mono HBO.out.size))
          have HB2 := HAL
          clear hp hdr hd HDR hdok hdm hM hM41 hLR hLX HAL
          go_upto_region 19 with fail
          obtain ⟨fs, hfs⟩ : ∃ fs : List FactP, fs = [(isV (.slice xa xn xc)), (isV (.agg #[.int .i64 dx, .int .i64 dy])), (fun u w2 => InRow w2 u LR), (isV (.slice ma mn mc)), (isV (.agg #[.int .i64 dx, .int .i64 dy])), (fun u w2 => InRow w2 u LR), (isV (.bool true))] := ⟨_, rfl⟩
          have hst : ∀ f ∈ fs, StableP f := by
            rw [hfs]; intro f hf
            simp only [List.mem_cons, List.not_mem_nil, or_false] at hf
            rcases hf with rfl | rfl | rfl | rfl | rfl | rfl | rfl <;> first | exact stable_v _ | exact fun u w2 w3 hb h => inRow_below h hb
          subst hfs
          refine wp_region_g (S := fun w2 => DirAt w2 wo.heap.size dx dy ∧ Below w8.heap.size w8 w2 ∧ Below wo.heap.size wo w2) [(isV (.slice xa xn xc)), (isV (.agg #[.int .i64 dx, .int .i64 dy])), (fun u w2 => InRow w2 u LR), (isV (.slice ma mn mc)), (isV (.agg #[.int .i64 dx, .int .i64 dy])), (fun u w2 => InRow w2 u LR), (isV (.bool true))] [(8, .slice ma mn mc), (9, .slice xa xn xc), (12, .pointer (some ⟨wo.heap.size, 0, none⟩))] _ _ 7 (by kernel_rfl) rfl rfl (by kernel_rfl) (by kernel_rfl) rfl (by kernel_rfl) ?base ⟨HD1.out, below_drew HB1.out, below_drew HB2.out⟩ ?ob rfl ?fin
          case base =>
            intro t v ht
            simp only [List.lookup_cons, List.lookup_nil] at ht
            repeat' split at ht
            all_goals first | (cases ht; done) | (obtain rfl := Option.some.inj ht; rename_i hh; obtain rfl := eq_of_beq hh; rfl)
          case ob =>
            exact ⟨obg_of rfl (obt_move (.slice xa xn xc) rfl rfl rfl (srt_b 9 rfl)),
              obg_of rfl (obt_one (.agg #[.int .i64 dx, .int .i64 dy]) rfl rfl (srt_b 12 rfl) (fun ρ w2 hS hx => exec_loadDir rfl hx hS.1)),
              obg_of rfl (obt_call hst [.slice xa xn xc, .agg #[.int .i64 dx, .int .i64 dy]] rfl Try.func9 (by kernel_rfl) (by kernel_rfl) rfl ⟨(srt_j 0 rfl (by kernel_rfl) rfl), (srt_j 1 rfl (by kernel_rfl) rfl), trivial⟩ (fun w2 hS => (HLX.out w2 hS.2.1).mono fun e w3 ⟨u, he, ho, hh⟩ => ⟨_, he, ⟨dirAt_below hS.1 hh, hS.2.1.trans (hh.mono hS.2.1.size), hS.2.2.trans (hh.mono hS.2.2.size)⟩, hh, inRow_own ho⟩)),
              obg_of rfl (obt_move (.slice ma mn mc) rfl rfl rfl (srt_b 8 rfl)),
              obg_of rfl (obt_one (.agg #[.int .i64 dx, .int .i64 dy]) rfl rfl (srt_b 12 rfl) (fun ρ w2 hS hx => exec_loadDir rfl hx hS.1)),
              obg_of rfl (obt_call hst [.slice ma mn mc, .agg #[.int .i64 dx, .int .i64 dy]] rfl Try.func9 (by kernel_rfl) (by kernel_rfl) rfl ⟨(srt_j 3 rfl (by kernel_rfl) rfl), (srt_j 4 rfl (by kernel_rfl) rfl), trivial⟩ (fun w2 hS => (HLM.out w2 hS.2.1).mono fun e w3 ⟨u, he, ho, hh⟩ => ⟨_, he, ⟨dirAt_below hS.1 hh, hS.2.1.trans (hh.mono hS.2.1.size), hS.2.2.trans (hh.mono hS.2.2.size)⟩, hh, inRow_own ho⟩)),
              obg_of rfl (obt_call_2 hst 2 5 rfl Try.func13 (by kernel_rfl) (by kernel_rfl) rfl rfl (by kernel_rfl) rfl (by kernel_rfl) (fun v u w2 hS h1 h2 => (same_any v u LR LR w2 h1 h2).mono fun e w3 ⟨he, hw⟩ => ⟨_, he.trans (by rw [beq_self_eq_true]), hw ▸ hS, hw ▸ Below.refl _ _, rfl⟩)),
              trivial⟩
          case fin =>
            intro a' w' h1 h2 h3 hS h4 K hK
            have ha := frame_ov rfl h1 h2 h3 [(99, .slice xa xn xc), (100, .agg #[.int .i64 dx, .int .i64 dy]), (101, a'.tmps.getD 101 undef), (102, .slice ma mn mc), (103, .agg #[.int .i64 dx, .int .i64 dy]), (104, a'.tmps.getD 104 undef), (105, .bool true), (106, a'.tmps.getD 106 undef)] (by kernel_rfl) ⟨h4 0 99 rfl (by decide), h4 1 100 rfl (by decide), rfl, h4 3 102 rfl (by decide), h4 4 103 rfl (by decide), rfl, h4 6 105 rfl (by decide), rfl, trivial⟩
            dsimp only [ov, List.lookup, Nat.reduceBEq, Nat.reduceAdd] at ha
            refine run_value (.bool false) (exec_notg (b := true) rfl (h4 6 105 rfl (by decide))) (hK (.bool false) _ ?_)
            show Exit.then _ _ Exit.normal (Act.put a' (some 106) (.bool false)) _
            rw [ha]
            generalize a'.tmps.getD 101 undef = u101
            generalize a'.tmps.getD 104 undef = u104
            generalize a'.tmps.getD 106 undef = u106
            clear ha h1 h2 h3 h4 hst hK
            have HB9 := hide hS.2.1
            go_wp2
            go_roundw
            case rel => exact ⟨k + 1, by omega, by go_num, HB9.out⟩
            case measure => simp [intOf]; omega
        · obtain rfl : k = N := by omega
          have HX9 := hide (inMat_below HX8.out HBO.out)
          have HM9 := hide (inMat_below HM8.out HBO.out)
          go_wp2_with ((with_reducible refine (alike_any _ _ _ _ _ HX9.out HM9.out).mono ?_); rw [HDIF.out]; rintro e w9 ⟨rfl, hb9⟩; have HB9 := hide ((HB8.out.trans (HBO.out.mono HB8.out.size)).trans (hb9.mono (Nat.le_trans HB8.out.size HBO.out.size))); clear hb9)
          go_ret
          exact ⟨rfl, HB9.out⟩
end Go.Proofs.Ytjnnoabaepmcnaa
/-
  The law FnDetermined, walked.
-/
namespace Go.Proofs.Ytjnnoabaepmcnaa
open Go.RowKit
set_option maxRecDepth 100000

theorem agr_succ {l : List (Int × Int)} {p : Int × Int → Bool} {j : Nat} (hj : j < l.length) : (l.take (j + 1)).all p = ((l.take j).all p && p l[j]) := by
  rw [List.take_succ_eq_append_getElem hj, List.all_append]
  simp
set_option maxHeartbeats 16000000 in
theorem lawDetermined_walk (a : Option Addr) (n c : Nat) (w : World) (hin : InBytes w w.heap.size a n) :
    Calls Try.prog 5 #[.slice a n c] w fun e w' => e = .returned (.bool true) ∧ Below w.heap.size w w' := by
  have HIN := hide hin
  clear hin
  by_cases hbig : (1048576 : Int) < n
  · go_enter Try.func5, Try.ntmps5
    go_wp2
    go_ret
    exact ⟨rfl, Below.refl _ _⟩
  have HN := hide (show n ≤ 2000000 by omega)
  go_enter Try.func5, Try.ntmps5
  go_wp2_with fail
  refine (makeDirs_any n c a 20 w HIN.out HN.out (by omega)).mono ?_
  rintro e w1 ⟨v, l, rfl, hd, hdc, hb⟩
  have HD := hide hd; have HB := hide hb; have HL := hide hdc
  have hlen := dirsB_len hd
  clear hd hdc hb
  go_wp2_with fail
  refine (makeNum_any n c a 30 _ w.heap.size (inBytes_below HIN.out HB.out) HN.out (by omega)).mono ?_
  rintro e w2 ⟨x, hx0, hx1, rfl, hb⟩
  have HL2 := hide (drsC_below HL.out hb); have HB2 := hide (HB.out.trans (hb.mono HB.out.size))
  clear hb
  go_wp2_with fail
  refine (makeNum_any n c a 32 _ w.heap.size (inBytes_below HIN.out HB2.out) HN.out (by omega)).mono ?_
  rintro e w3 ⟨z, hz0, hz1, rfl, hb⟩
  have HL3 := hide (drsC_below HL2.out hb); have HB3 := hide (HB2.out.trans (hb.mono HB2.out.size))
  clear hb
  go_wp2_with fail
  obtain ⟨R, hR⟩ : ∃ R : Nat, (R : Int) = 1 + x % 3 := ⟨(1 + x % 3).toNat, by omega⟩
  obtain ⟨C, hC⟩ : ∃ C : Nat, (C : Int) = 1 + z % 3 := ⟨(1 + z % 3).toNat, by omega⟩
  have hR1 : 1 ≤ R := by omega
  have hR3 : R ≤ 3 := by omega
  have hC1 : 1 ≤ C := by omega
  have hC3 : C ≤ 3 := by omega
  rw [← hR, ← hC]
  generalize x % 3 = x3 at *
  generalize z % 3 = z3 at *
  clear hR hC
  refine (makeSized_any n c a 40 R C _ w.heap.size (inBytes_below HIN.out HB3.out) HN.out (by omega) (by omega) (by omega)).mono ?_
  rintro e w4 ⟨v6, f, rfl, hI, ho, hb⟩
  have HIM := hide hI; have HM4 := hide (inMat_own ho)
  obtain ⟨ma, mn, mc, rfl⟩ := ownMat_slice ho
  have HL4 := hide (drsC_below HL3.out hb); have HB4 := hide (HB3.out.trans (hb.mono HB3.out.size))
  clear hI ho hb
  go_wp2_with fail
  refine (implGhostSize_any _ l _ HL4.out).mono ?_
  rintro e w5 ⟨rfl, hb⟩
  have HL5 := hide (drsC_below HL4.out hb); have HM5 := hide (inMat_below HM4.out hb); have HB5 := hide (HB4.out.trans (hb.mono HB4.out.size))
  clear hb
  obtain ⟨U, hU⟩ : ∃ U, U = gzR l := ⟨_, rfl⟩
  obtain ⟨V, hV⟩ : ∃ V, V = gzC l := ⟨_, rfl⟩
  rw [← hU, ← hV]
  have HU := hide hU; have HV := hide hV
  clear hU hV
  go_wp2_with fail
  refine (implDet_any R C _ l _ HL5.out).mono ?_
  rintro e w6 ⟨rfl, hb⟩
  have HL6 := hide (drsC_below HL5.out hb); have HM6 := hide (inMat_below HM5.out hb); have HB6 := hide (HB5.out.trans (hb.mono HB5.out.size))
  clear hb
  obtain ⟨d, hdd⟩ : ∃ d, d = detB R C l := ⟨_, rfl⟩
  rw [← hdd]
  have HDD := hide hdd
  have key : (d = true ∧ ((R : Int) < U ∨ (¬ (R : Int) < U ∧ (C : Int) < V))) ∨ (d = false ∧ ¬ (R : Int) < U ∧ ¬ (C : Int) < V) := by
    have e : d = (decide ((R : Int) < U) || decide ((C : Int) < V)) := by
      rw [hdd, detB, sizeOk, HD.out, ← HU.out, ← HV.out, decide_eq_true (show 1 ≤ (R : Int) ∧ (R : Int) ≤ 5 by omega), decide_eq_true (show 1 ≤ (C : Int) ∧ (C : Int) ≤ 5 by omega)]; rfl
    by_cases h1 : (R : Int) < U
    · exact .inl ⟨by rw [e, decide_eq_true h1]; rfl, .inl h1⟩
    · by_cases h2 : (C : Int) < V
      · exact .inl ⟨by rw [e, decide_eq_true h2, Bool.or_true], .inr ⟨h1, h2⟩⟩
      · exact .inr ⟨by rw [e, decide_eq_false h1, decide_eq_false h2]; rfl, h1, h2⟩
  obtain ⟨la, lc, rfl, -, -, hlp⟩ := id HL6.out
  obtain ⟨N, hNl⟩ : ∃ N, N = l.length := ⟨_, rfl⟩
  have HNL := hide hNl
  rw [← hNl] at HL6 hlen ⊢
  clear hlp hNl hdd HL HL2 HL3 HL4 HL5 HB HB2 HB3 HB4 HB5 HM4 HM5
  obtain ⟨n9, hn9⟩ : ∃ n9 : Nat, n9 = R * C := ⟨_, rfl⟩
  have hn99 : n9 ≤ 9 := by rw [hn9]; exact Nat.le_trans (Nat.mul_le_mul hR3 hC3) (by decide)
  have HRC : Hid ((R : Int) * (C : Int) = (n9 : Int)) := hide (by rw [hn9]; simp)
  have HPLACE := hide fun (y x : Nat) (hy : y < R) (hx : x < C) => place_lt (R := R) (C := C) hy hx
  rw [← hn9] at HPLACE
  obtain ⟨P, hP⟩ : ∃ P : Nat, P = 2 ^ n9 := ⟨_, rfl⟩
  have hPw : wrap64 ((2 : Int) ^ n9) = (P : Int) := by rw [hP]; exact pow_wrap9 n9 hn99
  have hP512 : P ≤ 512 := by rw [hP]; exact Nat.pow_le_pow_right (by decide) hn99
  clear hn9 hP
  rcases key with ⟨rfl, h1 | ⟨h1, h2⟩⟩ | ⟨rfl, h1, h2⟩
  all_goals
    go_wp2_with ((with_reducible refine (implDirsOk_any _ l _ HL6.out).mono ?_); rw [HD.out]; rintro e w7 ⟨rfl, hb⟩; have HL7 := hide (drsC_below HL6.out hb); have HM7 := hide (inMat_below HM6.out hb); have HB7 := hide (HB6.out.trans (hb.mono HB6.out.size)); clear hb)
    go_loopw [10] (fun i w' => ∃ k : Nat, k ≤ P ∧ i = .int .i64 k ∧ Below w7.heap.size w7 w') (fun i _ => P - (intOf i).toNat)
    case atStart => exact ⟨0, Nat.zero_le _, rfl, Below.refl _ _⟩
    case round =>
      obtain ⟨ws, rfl⟩ : ∃ ws, ws = wr := ⟨_, rfl⟩
      obtain ⟨k, hk, rfl, hbs⟩ := hrel
      have HBS := hide hbs
      clear hbs
      have hrc := HRC.out
      by_cases hlk : k < P
      · have hlkI : (k : Int) < P := by omega
        go_wp2_with fail
        rw [hPw]
        clear hrc
        go_loopw [11, 12] (fun u i w' => ∃ (y : Nat) (v : Value), y ≤ R ∧ i = .int .i64 y ∧ v = u ∧ OwnMat w' ws.heap.size w'.heap.size v (mkM y C (bitF C k)) ∧ Below ws.heap.size ws w') (fun _ i _ => R - (intOf i).toNat)
        case atStart => exact ⟨0, _, by omega, rfl, rfl, ⟨[], World.ownsRow_made (base := ws.heap.size) ws #[] 0 (Nat.le_refl _) (Nat.zero_le _) rfl, (fun k e => by simp [Value.ownBlock] at e; subst e; simp), (fun i h => absurd h (Nat.not_lt_zero _)), fun i j _ h => absurd h (Nat.not_lt_zero _)⟩, (Below.refl _ _).alloc (Nat.le_refl _) _⟩
        case round =>
          obtain ⟨wo, rfl⟩ : ∃ wo, wo = wr := ⟨_, rfl⟩
          obtain ⟨y, v, hy, rfl, rfl, hown, hbo⟩ := hrel
          have HO := hide hown; have HBO := hide hbo
          clear hown hbo
          by_cases hlt : y < R
          · have hyI : (y : Int) < R := by omega
            have hsz := HBO.out.size
            have HX : Hid ((wo.alloc (.cells #[] 3)).ownsRow wo.heap.size 3 1 (.slice (some ⟨wo.heap.size, 0, none⟩) 0 0) 0 []) := hide (World.ownsRow_made (base := wo.heap.size) wo #[] 0 (Nat.le_refl _) (Nat.zero_le _) rfl)
            have HAL := hide ((Below.refl wo.heap.size wo).alloc (Nat.le_refl _) (.cells #[] 3))
            have HOA := hide (ownMat_below HO.out HAL.out)
            go_wp2
            go_loopw [13, 14] (fun u i w' => ∃ (x : Nat) (q : Value), x ≤ C ∧ i = .int .i64 x ∧ q = u ∧ w'.ownsRow wo.heap.size 3 1 q x (ints (rowF x (bitF C k y))) ∧ OwnMat w' ws.heap.size wo.heap.size v (mkM y C (bitF C k)) ∧ Below wo.heap.size wo w') (fun _ i _ => C - (intOf i).toNat)
            case atStart => exact ⟨0, _, by omega, rfl, rfl, HX.out, HOA.out, HAL.out⟩
            case round =>
              clear HX HAL HOA
              obtain ⟨x, q, hx, rfl, rfl, hrow, hom, hbi⟩ := hrel
              have HR := hide hrow; have HM := hide hom; have HBI := hide hbi
              clear hrow hom hbi
              have hsi := HBI.out.size
              by_cases hlx : x < C
              · have hxI : (x : Int) < C := by omega
                have hpl := HPLACE.out y x hlt hlx
                obtain ⟨yc, hyc⟩ : ∃ yc : Nat, yc = y * C := ⟨_, rfl⟩
                rw [← hyc] at hpl
                have hyC : (y : Int) * (C : Int) = (yc : Int) := by rw [hyc]; simp
                have hbit := bit512 k (by omega) (yc + x) (by omega)
                obtain ⟨bv, hbv⟩ : ∃ bv : Nat, bv = k / 2 ^ (yc + x) % 2 := ⟨_, rfl⟩
                rw [← hbv] at hbit
                have hbv2 : bv ≤ 1 := by rw [hbv]; have := Nat.mod_lt (k / 2 ^ (yc + x)) (show 2 > 0 by decide); omega
                have HSV := hide (show ints (rowF (x + 1) (bitF C k y)) = ints (rowF x (bitF C k y)) ++ [.int .i64 (bv : Int)] by rw [rowS_succ, hbv, hyc]; rfl)
                clear hbv hyc
                go_wp2_with (at_builtin; refine wpList_push HR.out (.int .i64 (bv : Int)) (.int .i64 0) rfl _ _ rfl Try.underlying30 Try.infoInt rfl (by decide) rfl rfl rfl (by omega) hsi ?_; intro v' w6 hown1 hb1 hgr1)
                go_roundw
                case rel => exact ⟨x + 1, _, by omega, by go_num, rfl, by rw [HSV.out]; exact hown1, ownMat_within HM.out (within_grown (lo := wo.heap.size) (hi := w6.heap.size) hgr1 fun k e => ⟨(HR.out.lt k e).1, Nat.lt_of_lt_of_le (HR.out.lt k e).2 hgr1.size⟩) (.inl (Nat.le_refl _)), HBI.out.trans hb1⟩
                case measure => simp [intOf]; omega
              · obtain rfl : x = C := by omega
                obtain ⟨ua, uc, rfl⟩ := own_slice HR.out
                obtain ⟨vs, hvv, hvh, hvr, hva⟩ := HM.out
                have hvl := mkM_len y x (bitF x k)
                rw [hvl] at hvv
                have HVV := hide hvv; have HVR := hide hvr; have HVA := hide hva
                clear hvv hvh hvr hva hvl
                go_wp2_with (at_builtin; refine wpList_push HVV.out (.slice ua x uc) (.slice none 0 0) rfl _ _ rfl Try.underlying23 Try.infoInts rfl (by decide) rfl rfl rfl (by omega) (by omega) ?_; intro v' w6 hown1 hb1 hgr1)
                go_roundw
                case rel =>
                  have hs6 := hb1.size
                  have hp := ownMat_push (r := rowF x (bitF x k y)) (hi' := w6.heap.size) HVR.out HVA.out (by rw [mkM_len]; exact HVV.out) (by rw [rowF_len]; exact HR.out) hsz hs6 (by omega) hgr1 (by rw [mkM_len]; exact hown1) (fun k e => (hown1.lt k e).2)
                  rw [← mkM_succ] at hp
                  exact ⟨y + 1, _, by omega, by go_num, rfl, hp, (HBO.out.trans (HBI.out.mono hsz)).trans hb1⟩
                case measure => simp [intOf]; omega
          · obtain rfl : R = y := by omega
            obtain ⟨xa, xn, xc, rfl⟩ := ownMat_slice HO.out
            have HJ := hide (bitF_img (R := R) k (by omega) (by omega : 1 ≤ C ∧ C ≤ 5))
            obtain ⟨X, hXe⟩ : ∃ X, X = bitF C k := ⟨_, rfl⟩
            rw [← hXe] at HO HJ
            have HWB := hide (HB7.out.trans ((HBS.out.trans (HBO.out.mono HBS.out.size)).mono HB7.out.size))
            obtain ⟨w8, hw8⟩ : ∃ w8, w8 = wo := ⟨_, rfl⟩
            rw [← hw8] at HO HBO HWB ⊢
            have HX8 := hide (inMat_own HO.out)
            have HB78 := hide (HBS.out.trans (HBO.out.mono HBS.out.size))
            have HM8 := hide (inMat_below HM7.out HB78.out)
            have HL8 := hide (drsC_below HL7.out HB78.out)
            clear hXe hw8
            go_wp2
            go_loopw [15, 96] (fun q i w' => ∃ j : Nat, j ≤ N ∧ i = .int .i64 j ∧ q = .bool ((l.take j).all (eqB R C X f)) ∧ Below w8.heap.size w8 w') (fun _ i _ => N - (intOf i).toNat)
            case atStart => exact ⟨0, Nat.zero_le _, rfl, by simp, Below.refl _ _⟩
            case round =>
              obtain ⟨wd, rfl⟩ : ∃ wd, wd = wr := ⟨_, rfl⟩
              obtain ⟨j, hj, rfl, rfl, hbo⟩ := hrel
              have HBD := hide hbo
              clear hbo
              by_cases hlj : j < N
              · have hljI : (j : Int) < N := by omega
                have hjl : j < l.length := by rw [← HNL.out]; exact hlj
                obtain ⟨a', c', he, -, -, hp⟩ := HL8.out
                rw [← HNL.out] at he
                cases he
                obtain ⟨gl, ol, rfl, hgl, hdr⟩ := hp.resolve_left (by omega)
                have HDR := hide (drC_below (hdr j hjl) HBD.out hgl)
                have hdok := (dirsB_at HD.out hjl).1
                have HAG := hide (agr_succ (p := eqB R C X f) hjl)
                obtain ⟨dd, hd⟩ : ∃ dd, dd = l[j] := ⟨_, rfl⟩
                rw [← hd] at HDR hdok HAG
                obtain ⟨dx, dy⟩ := dd
                obtain ⟨c0, c1⟩ := HDR.out
                simp only at c0 c1 hdok
                obtain ⟨M, hM, hM41⟩ := countL_size (R := R) (C := C) (near_of hdok) (by omega) (by omega)
                have HEQ : eqB R C X f (dx, dy) = (lineRow R C X dx dy M == lineRow R C f dx dy M) := by
                  unfold eqB
                  simp only
                  rw [show (countL R C dx dy).toNat = M by omega]
                obtain ⟨LX, hLX⟩ : ∃ LX, LX = lineRow R C X dx dy M := ⟨_, rfl⟩
                obtain ⟨LM, hLM⟩ : ∃ LM, LM = lineRow R C f dx dy M := ⟨_, rfl⟩
                have HLX := hide fun (w2 : World) (hb : Below w8.heap.size w8 w2) => implLineSums_yes (.slice xa xn xc) R C M X dx dy w2 (inMat_below HX8.out hb) HJ.out hdok hM hM41
                have HLM := hide fun (w2 : World) (hb : Below w8.heap.size w8 w2) => implLineSums_yes (.slice ma mn mc) R C M f dx dy w2 (inMat_below HM8.out hb) HIM.out hdok hM hM41
                rw [← hLX] at HLX HEQ
                rw [← hLM] at HLM HEQ
                obtain ⟨qv, hqv⟩ : ∃ qv, qv = (LX == LM) := ⟨_, rfl⟩
                have HQV := hide hqv.symm
                obtain ⟨bq, hbq⟩ : ∃ bq, bq = (l.take j).all (eqB R C X f) := ⟨_, rfl⟩
                rw [HEQ, ← hqv, ← hbq] at HAG
                rw [← hbq]
                have HAL := hide ((Below.refl wd.heap.size wd).alloc (Nat.le_refl _) (.cells #[.int .i64 dx, .int .i64 dy] 29))
                have HD1 := hide (show DirAt (wd.alloc (.cells #[.int .i64 dx, .int .i64 dy] 29)) wd.heap.size dx dy from heap_alloc_new wd _)
                have HB1 := hide (HBD.out.trans (HAL.out.mono HBD.out.size))
                have HB2 := HAL
                clear hp hdr hd HDR hdok hM hM41 hLX hLM HEQ hqv hbq HAL
                cases bq with
                | false =>
                  have HSU : Hid ((l.take (j + 1)).all (eqB R C X f) = false) := hide (by rw [HAG.out]; rfl)
                  clear HAG
                  go_upto_region 28 with fail
                  obtain ⟨fs, hfs⟩ : ∃ fs : List FactP, fs = [(isV (.bool false)), (isV (.bool false)), (isV (undef)), (isV (undef)), (isV (undef)), (isV (undef)), (isV (undef)), (isV (undef)), (isV (undef)), (isV (.bool false))] := ⟨_, rfl⟩
                  have hst : ∀ f ∈ fs, StableP f := by
                    rw [hfs]; intro f hf
                    simp only [List.mem_cons, List.not_mem_nil, or_false] at hf
                    rcases hf with rfl | rfl | rfl | rfl | rfl | rfl | rfl | rfl | rfl | rfl <;> exact stable_v _
                  subst hfs
                  refine wp_region_gp (S := fun w2 => DirAt w2 wd.heap.size dx dy ∧ Below w8.heap.size w8 w2 ∧ Below wd.heap.size wd w2) [(isV (.bool false)), (isV (.bool false)), (isV (undef)), (isV (undef)), (isV (undef)), (isV (undef)), (isV (undef)), (isV (undef)), (isV (undef)), (isV (.bool false))] [(15, .bool false)] _ _ 10 (by kernel_rfl) rfl rfl (by kernel_rfl) (by kernel_rfl) rfl (by kernel_rfl) ?base ⟨HD1.out, below_drew HB1.out, below_drew HB2.out⟩ ?ob rfl ?fin
                  case base =>
                    intro t v ht
                    simp only [List.lookup_cons, List.lookup_nil] at ht
                    repeat' split at ht
                    all_goals first | (cases ht; done) | (obtain rfl := Option.some.inj ht; rename_i hh; obtain rfl := eq_of_beq hh; rfl)
                  case ob =>
                    exact ⟨obg_of rfl (obt_move (.bool false) rfl rfl rfl (srt_b 15 rfl)),
                      obg_of rfl (obt_move (.bool false) rfl rfl rfl (srt_j 0 rfl (by kernel_rfl) rfl)),
                      obg_no 1 rfl rfl (by kernel_rfl) rfl rfl,
                      obg_no 1 rfl rfl (by kernel_rfl) rfl rfl,
                      obg_no 1 rfl rfl (by kernel_rfl) rfl rfl,
                      obg_no 1 rfl rfl (by kernel_rfl) rfl rfl,
                      obg_no 1 rfl rfl (by kernel_rfl) rfl rfl,
                      obg_no 1 rfl rfl (by kernel_rfl) rfl rfl,
                      obg_no 1 rfl rfl (by kernel_rfl) rfl rfl,
                      obg_of rfl (obt_pick_f (.bool false) rfl rfl rfl (srt_j 1 rfl (by kernel_rfl) rfl) (srt_c (v := .bool false))),
                      trivial⟩
                  case fin =>
                    intro a' w' h1 h2 h3 hS h4 K hK
                    have ha := frame_ov rfl h1 h2 h3 [(100, .bool false), (101, .bool false), (102, undef), (103, undef), (104, undef), (105, undef), (106, undef), (107, undef), (108, undef), (109, .bool false), (15, a'.tmps.getD 15 undef)] (by kernel_rfl) ⟨h4 0 100 rfl (by decide), h4 1 101 rfl (by decide), h4 2 102 rfl (by decide), h4 3 103 rfl (by decide), h4 4 104 rfl (by decide), h4 5 105 rfl (by decide), h4 6 106 rfl (by decide), h4 7 107 rfl (by decide), h4 8 108 rfl (by decide), h4 9 109 rfl (by decide), rfl, trivial⟩
                    dsimp only [ov, List.lookup, Nat.reduceBEq, Nat.reduceAdd] at ha
                    refine run_value (.bool false) (exec_assigng (v := .bool false) rfl (h4 9 109 rfl (by decide))) (hK (.bool false) _ ?_)
                    show Exit.inBlock _ _ Exit.normal (Act.put a' (some 15) (.bool false)) _
                    rw [ha]
                    generalize a'.tmps.getD 15 undef = u15
                    clear ha h1 h2 h3 h4 hst hK
                    have HB9 := hide hS.2.1
                    go_wp2
                    go_roundw
                    case rel => exact ⟨j + 1, by omega, by go_num, by rw [HSU.out], HB9.out⟩
                    case measure => simp [intOf]; omega
                | true =>
                  have HSU : Hid ((l.take (j + 1)).all (eqB R C X f) = qv) := hide (by rw [HAG.out]; rfl)
                  clear HAG
                  go_upto_region 28 with fail
                  obtain ⟨fs, hfs⟩ : ∃ fs : List FactP, fs = [(isV (.bool true)), (isV (.bool true)), (isV (.slice xa xn xc)), (isV (.agg #[.int .i64 dx, .int .i64 dy])), (fun u w2 => InRow w2 u LX), (isV (.slice ma mn mc)), (isV (.agg #[.int .i64 dx, .int .i64 dy])), (fun u w2 => InRow w2 u LM), (isV (.bool qv)), (isV (.bool qv))] := ⟨_, rfl⟩
                  have hst : ∀ f ∈ fs, StableP f := by
                    rw [hfs]; intro f hf
                    simp only [List.mem_cons, List.not_mem_nil, or_false] at hf
                    rcases hf with rfl | rfl | rfl | rfl | rfl | rfl | rfl | rfl | rfl | rfl <;> first | exact stable_v _ | exact fun u w2 w3 hb h => inRow_below h hb
                  subst hfs
                  refine wp_region_gp (S := fun w2 => DirAt w2 wd.heap.size dx dy ∧ Below w8.heap.size w8 w2 ∧ Below wd.heap.size wd w2) [(isV (.bool true)), (isV (.bool true)), (isV (.slice xa xn xc)), (isV (.agg #[.int .i64 dx, .int .i64 dy])), (fun u w2 => InRow w2 u LX), (isV (.slice ma mn mc)), (isV (.agg #[.int .i64 dx, .int .i64 dy])), (fun u w2 => InRow w2 u LM), (isV (.bool qv)), (isV (.bool qv))] [(6, .slice ma mn mc), (11, .slice xa xn xc), (15, .bool true), (17, .pointer (some ⟨wd.heap.size, 0, none⟩))] _ _ 10 (by kernel_rfl) rfl rfl (by kernel_rfl) (by kernel_rfl) rfl (by kernel_rfl) ?base ⟨HD1.out, below_drew HB1.out, below_drew HB2.out⟩ ?ob rfl ?fin
                  case base =>
                    intro t v ht
                    simp only [List.lookup_cons, List.lookup_nil] at ht
                    repeat' split at ht
                    all_goals first | (cases ht; done) | (obtain rfl := Option.some.inj ht; rename_i hh; obtain rfl := eq_of_beq hh; rfl)
                  case ob =>
                    exact ⟨obg_of rfl (obt_move (.bool true) rfl rfl rfl (srt_b 15 rfl)),
                      obg_of rfl (obt_move (.bool true) rfl rfl rfl (srt_j 0 rfl (by kernel_rfl) rfl)),
                      obg_yes 1 rfl rfl (by kernel_rfl) rfl (obt_move (.slice xa xn xc) rfl rfl rfl (srt_b 11 rfl)),
                      obg_yes 1 rfl rfl (by kernel_rfl) rfl (obt_one (.agg #[.int .i64 dx, .int .i64 dy]) rfl rfl (srt_b 17 rfl) (fun ρ w2 hS hx => exec_loadDir rfl hx hS.1)),
                      obg_yes 1 rfl rfl (by kernel_rfl) rfl (obt_call hst [.slice xa xn xc, .agg #[.int .i64 dx, .int .i64 dy]] rfl Try.func9 (by kernel_rfl) (by kernel_rfl) rfl ⟨(srt_j 2 rfl (by kernel_rfl) rfl), (srt_j 3 rfl (by kernel_rfl) rfl), trivial⟩ (fun w2 hS => (HLX.out w2 hS.2.1).mono fun e w3 ⟨u, he, ho, hh⟩ => ⟨_, he, ⟨dirAt_below hS.1 hh, hS.2.1.trans (hh.mono hS.2.1.size), hS.2.2.trans (hh.mono hS.2.2.size)⟩, hh, inRow_own ho⟩)),
                      obg_yes 1 rfl rfl (by kernel_rfl) rfl (obt_move (.slice ma mn mc) rfl rfl rfl (srt_b 6 rfl)),
                      obg_yes 1 rfl rfl (by kernel_rfl) rfl (obt_one (.agg #[.int .i64 dx, .int .i64 dy]) rfl rfl (srt_b 17 rfl) (fun ρ w2 hS hx => exec_loadDir rfl hx hS.1)),
                      obg_yes 1 rfl rfl (by kernel_rfl) rfl (obt_call hst [.slice ma mn mc, .agg #[.int .i64 dx, .int .i64 dy]] rfl Try.func9 (by kernel_rfl) (by kernel_rfl) rfl ⟨(srt_j 5 rfl (by kernel_rfl) rfl), (srt_j 6 rfl (by kernel_rfl) rfl), trivial⟩ (fun w2 hS => (HLM.out w2 hS.2.1).mono fun e w3 ⟨u, he, ho, hh⟩ => ⟨_, he, ⟨dirAt_below hS.1 hh, hS.2.1.trans (hh.mono hS.2.1.size), hS.2.2.trans (hh.mono hS.2.2.size)⟩, hh, inRow_own ho⟩)),
                      obg_yes 1 rfl rfl (by kernel_rfl) rfl (obt_call_2 hst 4 7 rfl Try.func13 (by kernel_rfl) (by kernel_rfl) rfl rfl (by kernel_rfl) rfl (by kernel_rfl) (fun v u w2 hS h1 h2 => (same_any v u LX LM w2 h1 h2).mono fun e w3 ⟨he, hw⟩ => ⟨_, he.trans (by rw [HQV.out]), hw ▸ hS, hw ▸ Below.refl _ _, rfl⟩)),
                      obg_of rfl (obt_pick_t (.bool qv) rfl rfl rfl (srt_j 1 rfl (by kernel_rfl) rfl) (srt_j 8 rfl (by kernel_rfl) rfl)),
                      trivial⟩
                  case fin =>
                    intro a' w' h1 h2 h3 hS h4 K hK
                    have ha := frame_ov rfl h1 h2 h3 [(100, .bool true), (101, .bool true), (102, .slice xa xn xc), (103, .agg #[.int .i64 dx, .int .i64 dy]), (104, a'.tmps.getD 104 undef), (105, .slice ma mn mc), (106, .agg #[.int .i64 dx, .int .i64 dy]), (107, a'.tmps.getD 107 undef), (108, .bool qv), (109, .bool qv), (15, a'.tmps.getD 15 undef)] (by kernel_rfl) ⟨h4 0 100 rfl (by decide), h4 1 101 rfl (by decide), h4 2 102 rfl (by decide), h4 3 103 rfl (by decide), rfl, h4 5 105 rfl (by decide), h4 6 106 rfl (by decide), rfl, h4 8 108 rfl (by decide), h4 9 109 rfl (by decide), rfl, trivial⟩
                    dsimp only [ov, List.lookup, Nat.reduceBEq, Nat.reduceAdd] at ha
                    refine run_value (.bool qv) (exec_assigng (v := .bool qv) rfl (h4 9 109 rfl (by decide))) (hK (.bool qv) _ ?_)
                    show Exit.inBlock _ _ Exit.normal (Act.put a' (some 15) (.bool qv)) _
                    rw [ha]
                    generalize a'.tmps.getD 104 undef = u104
                    generalize a'.tmps.getD 107 undef = u107
                    generalize a'.tmps.getD 15 undef = u15
                    clear ha h1 h2 h3 h4 hst hK
                    have HB9 := hide hS.2.1
                    go_wp2
                    go_roundw
                    case rel => exact ⟨j + 1, by omega, by go_num, by rw [HSU.out], HB9.out⟩
                    case measure => simp [intOf]; omega
              · obtain rfl : N = j := by omega
                have HAE := hide (show (l.take N).all (eqB R C X f) = l.all (eqB R C X f) by rw [List.take_of_length_le (by rw [← HNL.out]; exact Nat.le_refl _)])
                obtain ⟨q, hq⟩ : ∃ q, q = (l.take N).all (eqB R C X f) := ⟨_, rfl⟩
                rw [← hq] at HAE ⊢
                have HX9 := hide (inMat_below HX8.out HBD.out)
                have HM9 := hide (inMat_below HM8.out HBD.out)
                have HB9 := hide (HB78.out.trans (HBD.out.mono HB78.out.size))
                clear hq
                cases q with
                | false =>
                  go_wp2
                  go_roundw
                  case rel => exact ⟨k + 1, by omega, by go_num, HB9.out⟩
                  case measure => simp [intOf]; omega
                | true =>
                  go_wp2_with ((with_reducible refine (alike_any _ _ _ _ _ HX9.out HM9.out).mono ?_); rw [det_eq HJ.out HIM.out HD.out HDD.out.symm HAE.out.symm, beq_self_eq_true]; rintro e w9 ⟨rfl, hb9⟩; replace HB9 := hide (HB9.out.trans (hb9.mono HB9.out.size)); clear hb9)
                  go_roundw
                  case rel => exact ⟨k + 1, by omega, by go_num, HB9.out⟩
                  case measure => simp [intOf]; omega
      · obtain rfl : k = P := by omega
        go_wp2
        go_ret
        exact ⟨rfl, HB7.out.trans (HBS.out.mono HB7.out.size)⟩
end Go.Proofs.Ytjnnoabaepmcnaa
