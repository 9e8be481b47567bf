/-
  Texts of this claim, one behind the other: FnGhR, FnGh.
-/
import Derived.Test.YtjnnoabaepmcnaaPackK
import Derived.Test.YtjnnoabaepmcnaaPackL
import Derived.Test.YtjnnoabaepmcnaaPackF
import Derived.Test.YtjnnoabaepmcnaaPackM
import Derived.Test.YtjnnoabaepmcnaaPackN
import Derived.Test.YtjnnoabaepmcnaaPackC
/-
  The law FnGhosts, walked out of a contract of the model's maker of directions.
-/
namespace Go.Proofs.Ytjnnoabaepmcnaa
open Go.RowKit Go.Katz
set_option maxRecDepth 100000

theorem obt_call_2 {P : Program} {Q : Exit → Act → World → Prop} {base : List (Tmp × Value)} {dsts : List (Option Tmp)} {S : World → Prop} {fs : List FactP} {i : Nat} {o : Oper} {f : FuncId} {d e : Tmp} {ts : Array TypeId} {fn : Func} (hst : ∀ f ∈ fs, StableP f) (j k : Nat) (ho : o.op = .call { callee := .value (.func f), args := #[.tmp d, .tmp e], argTypes := ts }) (hfn : P.funcs[f]? = some fn) (hn : (fn.name == "runtime.NumGoroutine") = false) (hb : fn.body.isSome = true)
    (hg : o.guard = none) (h1 : dsts[j]? = some (some d)) (h2 : depT o j = true) (k1 : dsts[k]? = some (some e)) (k2 : depT o k = true)
    (hc : ∀ v u w, S w → factP fs j v w → factP fs k u w → Calls P f #[v, u] w fun e w' => ∃ r, e = .returned r ∧ S w' ∧ Below w.heap.size w w' ∧ factP fs i r w') : Obt P Q base dsts S fs i o :=
  fun a w hS _ hD K hK => ⟨.inl hg, run_call ho hfn hn hb #[a.tmps.getD d undef, a.tmps.getD e undef] (by simp only [List.map_toArray, List.map_cons, List.map_nil]; rfl) ((hc _ _ w hS (hD j d h1 h2) (hD k e k1 k2)).mono fun e w' ⟨v, he, g1, g2, g3⟩ => ⟨v, he, hK _ _ g1 (fun j u h => stable_all hst j u _ _ g2 h) g3⟩)⟩
theorem nil_len {w : World} {lo hi n c : Nat} {a : Option Addr} (h : OwnMat w lo hi (.slice a n c) []) : n = 0 := by
  obtain ⟨vs, ho, -⟩ := h
  rcases ho.2 with ⟨e, -⟩ | ⟨g', cap', cur, e, _⟩
  · cases e; rfl
  · cases e; rfl
theorem img_of_ok2 {R C : Nat} {f : Nat → Nat → Int} (hR : 1 ≤ R ∧ R ≤ 5) (hC : 1 ≤ C ∧ C ≤ 5) (h : okB (mkM R C f) = true) : Img R C f := by
  have hI := okB_elM h
  have hw := width_mkM (C := C) (f := f) (show 0 < R by omega)
  rw [hw, mkM_len] at hI
  refine ⟨hR.1, hR.2, hC.1, hC.2, fun y x hy hx => ?_⟩
  have e : elM (mkM R C f) y x = f y x := elM_mk hy hx
  rw [← e]; exact hI.cell y x hy hx
set_option maxHeartbeats 16000000 in
theorem lawGhosts_gen (a : Option Addr) (n c : Nat) (w : World) (hin : InBytes w w.heap.size a n) (hmd : n ≤ 1048576 → Calls Try.prog 8 #[.slice a n c, .int .i64 20] w (DirsRes w)) :
    Calls Try.prog 4 #[.slice a n c] w fun e w' => e = .returned (.bool true) ∧ Below w.heap.size w w' := by
  have HIN := hide hin
  clear hin
  by_cases hbig : (1048576 : Int) < n
  · clear hmd
    go_enter Try.func4, Try.ntmps4
    go_wp2
    go_ret
    exact ⟨rfl, Below.refl _ _⟩
  have HMD := hide (hmd (by omega))
  have HN := hide (show n ≤ 2000000 by omega)
  clear hmd
  go_enter Try.func4, Try.ntmps4
  go_wp2_with fail
  refine HMD.out.mono ?_
  rintro e w1 ⟨v, l, rfl, hd, hdc, hb⟩
  have HD := hide hd; have HB := hide hb; have HL := hide hdc
  have hrg := up_range l (dirsB_near hd)
  have hlen := dirsB_len hd
  have HZR : Hid (gzR l = 1 + Katz.upI l ∧ gzC l = 1 + Katz.overI l) := hide (by rw [gzR, gzC, if_pos hd, if_pos hd]; exact ⟨rfl, rfl⟩)
  obtain ⟨U, hU⟩ : ∃ U, U = gzR l := ⟨_, rfl⟩
  obtain ⟨V, hV⟩ : ∃ V, V = gzC l := ⟨_, rfl⟩
  have hu1 : 1 ≤ U ∧ U ≤ 13 := by rw [hU, HZR.out.1]; omega
  have hv1 : 1 ≤ V ∧ V ≤ 13 := by rw [hV, HZR.out.2]; omega
  have HBG : Hid (bgB l = sizeOk U V) := hide (by rw [bgB, hd, hU, hV, HZR.out.1, HZR.out.2]; rfl)
  have HUV := hide (And.intro hU hV)
  obtain ⟨hu, hu13⟩ := hu1
  obtain ⟨hv, hv13⟩ := hv1
  have HC := hide hdc
  obtain ⟨la, lc, rfl, -, hlm, hlp⟩ := hdc
  have HLP := hide hlp
  obtain ⟨N, hNl⟩ : ∃ N, N = l.length := ⟨_, rfl⟩
  have HNL := hide hNl
  rw [← hNl] at HL HC hlen ⊢
  clear hd hb hlp hlm hrg hNl
  cases hok : bgB l with
  | false =>
    have HE : Hid (bgM l = [] ∧ bgB l = false) := hide (by rw [bgM, hok]; exact ⟨rfl, rfl⟩)
    rw [HBG.out] at hok
    by_cases h5 : U ≤ 5
    · have h6 : ¬ V ≤ 5 := fun h6 => by
        rw [sizeOk, decide_eq_true (show 1 ≤ U ∧ U ≤ 5 by omega), decide_eq_true (show 1 ≤ V ∧ V ≤ 5 by omega)] at hok
        cases hok
      clear hU hV hok
      go_wp2_with (first | ((with_reducible refine (implBasicGhost_any _ l _ HL.out).mono ?_); rw [HE.out.1, HE.out.2]; rintro e w2 ⟨g, rfl, ho, hb⟩; have HO := hide ho; obtain ⟨ga, gn, gc, rfl⟩ := ownMat_slice ho; obtain rfl : gn = 0 := nil_len ho; have HL2 := hide (drsC_below HL.out hb); have HB2 := hide (HB.out.trans (hb.mono HB.out.size)); clear ho hb) | ((with_reducible refine (implGhostSize_any _ l _ HL2.out).mono ?_); rw [← HUV.out.1, ← HUV.out.2]; rintro e w3 ⟨rfl, hb⟩; have HL3 := hide (drsC_below HL2.out hb); have HB3 := hide (HB2.out.trans (hb.mono HB2.out.size)); clear hb) | ((with_reducible refine (implDirsOk_any _ l _ HL3.out).mono ?_); rw [HD.out]; rintro e w4 ⟨rfl, hb⟩; have HB4 := hide (HB3.out.trans (hb.mono HB3.out.size)); clear hb))
      go_ret
      exact ⟨rfl, HB4.out⟩
    · clear hU hV hok
      go_wp2_with (first | ((with_reducible refine (implBasicGhost_any _ l _ HL.out).mono ?_); rw [HE.out.1, HE.out.2]; rintro e w2 ⟨g, rfl, ho, hb⟩; have HO := hide ho; obtain ⟨ga, gn, gc, rfl⟩ := ownMat_slice ho; obtain rfl : gn = 0 := nil_len ho; have HL2 := hide (drsC_below HL.out hb); have HB2 := hide (HB.out.trans (hb.mono HB.out.size)); clear ho hb) | ((with_reducible refine (implGhostSize_any _ l _ HL2.out).mono ?_); rw [← HUV.out.1, ← HUV.out.2]; rintro e w3 ⟨rfl, hb⟩; have HL3 := hide (drsC_below HL2.out hb); have HB3 := hide (HB2.out.trans (hb.mono HB2.out.size)); clear hb) | ((with_reducible refine (implDirsOk_any _ l _ HL3.out).mono ?_); rw [HD.out]; rintro e w4 ⟨rfl, hb⟩; have HB4 := hide (HB3.out.trans (hb.mono HB3.out.size)); clear hb))
      go_ret
      exact ⟨rfl, HB4.out⟩
  | true =>
    obtain ⟨-, hgr, hgc, hR, hC⟩ := bg_size hok
    have HIS := hide (ghost_is hok)
    have HADF := hide fun (f : Nat → Nat → Int) (hI : Img (ghG l).R (ghG l).C f) => ghost_add hok hI
    have HSAME := hide fun (d : Int × Int) (hd : d ∈ l) (f : Nat → Nat → Int) (M : Nat) => ghost_same HD.out hd f M
    have HDIF := hide fun f => ghost_differs HD.out f
    have HDET := hide (det_size hok)
    have HE : Hid (bgM l = mkM (ghG l).R (ghG l).C (ghG l).f ∧ bgB l = true) := hide (by rw [bgM, if_pos hok]; exact ⟨rfl, hok⟩)
    obtain ⟨R, hRe⟩ : ∃ R, R = (ghG l).R := ⟨_, rfl⟩
    obtain ⟨C, hCe⟩ : ∃ C, C = (ghG l).C := ⟨_, rfl⟩
    obtain ⟨G, hGe⟩ : ∃ G, G = (ghG l).f := ⟨_, rfl⟩
    rw [← hRe, ← hCe, ← hGe] at HIS HADF HSAME HDIF HE
    rw [← hRe] at hgr hR
    rw [← hCe] at hgc hC
    have HRC := hide (And.intro hR hC)
    obtain rfl : U = (R : Int) := by rw [hU, hgr]
    obtain rfl : V = (C : Int) := by rw [hV, hgc]
    rw [← hU, ← hV] at HDET
    have r5 : (R : Int) ≤ 5 := by omega
    have c5 : (C : Int) ≤ 5 := by omega
    have hRp : 0 < R := by omega
    clear hU hV hgr hgc hRe hCe hGe hok hR hC
    go_wp2_with (first | ((with_reducible refine (implBasicGhost_any _ l _ HL.out).mono ?_); rw [HE.out.1, HE.out.2]; rintro e w2 ⟨g, rfl, ho, hb⟩; have HG2 := hide (inMat_own ho); obtain ⟨gg, og, cg, rfl, hgg, hrow⟩ := inMat_img HG2.out (by omega) (by omega); obtain ⟨g0, o0, k0, hc0, -, -⟩ := hrow 0 hRp; rw [Nat.add_zero] at hc0; have HC0 := hide hc0; have HGG := hide hgg; have HL2 := hide (drsC_below HL.out hb); have HB2 := hide (HB.out.trans (hb.mono HB.out.size)); clear ho hb hrow hc0 hgg) | ((with_reducible refine (implGhostSize_any _ l _ HL2.out).mono ?_); rw [← HUV.out.1, ← HUV.out.2]; rintro e w3 ⟨rfl, hb⟩; have HG3 := hide (inMat_below HG2.out hb); have HL3 := hide (drsC_below HL2.out hb); have HB3 := hide (HB2.out.trans (hb.mono HB2.out.size)); have HK3 := hide hb; clear hb) | ((with_reducible refine (implDirsOk_any _ l _ HL3.out).mono ?_); rw [HD.out]; rintro e w4 ⟨rfl, hb⟩; have HG4 := hide (inMat_below HG3.out hb); have HL4 := hide (drsC_below HL3.out hb); have HB4 := hide (HB3.out.trans (hb.mono HB3.out.size)); have hcell := below_cell (HK3.out.trans (hb.mono HK3.out.size)) HGG.out HC0.out; clear hb) | ((with_reducible refine (implIsGhost_any _ _ _ l _ HG4.out HL4.out).mono ?_); rw [HIS.out]; rintro e w5 ⟨rfl, hb⟩; have HG5 := hide (inMat_below HG4.out hb); have HL5 := hide (drsC_below HL4.out hb); have HB5 := hide (HB4.out.trans (hb.mono HB4.out.size)); clear hb hcell) | ((with_reducible refine (implDet_any R C _ l _ HL5.out).mono ?_); rw [HDET.out]; rintro e w6 ⟨rfl, hb⟩; have HG6 := hide (inMat_below HG5.out hb); have HL6 := hide (drsC_below HL5.out hb); have HB6 := hide (HB5.out.trans (hb.mono HB5.out.size)); clear hb))
    refine (makeSized_any n c a 40 R C _ w.heap.size (inBytes_below HIN.out HB6.out) HN.out (by omega) HRC.out.1 HRC.out.2).mono ?_
    rintro e w7 ⟨v8, f, rfl, hI, ho, hb⟩
    have HIM := hide hI; have HM7 := hide (inMat_own ho)
    obtain ⟨ma, mn, mc, rfl⟩ := ownMat_slice ho
    have HG7 := hide (inMat_below HG6.out hb); have HL7 := hide (drsC_below HL6.out hb); have HB7 := hide (HB6.out.trans (hb.mono HB6.out.size))
    clear hI ho hb
    go_wp2_with fail
    refine (implAddGhost_any _ _ _ _ 0 0 _ HM7.out HG7.out).mono ?_
    obtain ⟨b, hb⟩ : ∃ b, b = okB (mkM R C (plusF f G)) := ⟨_, rfl⟩
    have HOB := hide hb
    rw [aghM, (HADF.out f HIM.out).2, (HADF.out f HIM.out).1, ← hb]
    clear hb
    cases b with
    | false =>
      rintro e w8 ⟨x, rfl, ho, hb⟩
      obtain ⟨xa, xn, xc, rfl⟩ := ownMat_slice ho
      obtain rfl : xn = 0 := nil_len ho
      have HB8 := hide (HB7.out.trans (hb.mono HB7.out.size))
      clear ho hb
      go_wp2
      go_ret
      exact ⟨rfl, HB8.out⟩
    | true =>
      rintro e w8 ⟨x, rfl, ho, hb⟩
      obtain ⟨xa, xn, xc, rfl⟩ := ownMat_slice ho
      have HX8 := hide (show InMat w8 (.slice xa xn xc) (mkM R C (plusF f G)) from inMat_own ho)
      have HM8 := hide (inMat_below HM7.out hb)
      have HL8 := hide (drsC_below HL7.out hb)
      have HB8 := hide (HB7.out.trans (hb.mono HB7.out.size))
      have HIX := hide (img_of_ok2 HRC.out.1 HRC.out.2 HOB.out.symm)
      clear ho hb
      go_wp2
      go_loopw [95] (fun i w' => ∃ k : Nat, k ≤ N ∧ i = .int .i64 k ∧ Below w8.heap.size w8 w') (fun i _ => N - (intOf i).toNat)
      case atStart => exact ⟨0, Nat.zero_le _, rfl, Below.refl _ _⟩
      case round =>
        obtain ⟨wo, rfl⟩ : ∃ wo, wo = wr := ⟨_, rfl⟩
        obtain ⟨k, hk, rfl, hbo⟩ := hrel
        have HBO := hide hbo
        clear hbo
        by_cases hlk : k < N
        · have hlkI : (k : Int) < N := by omega
          have hkl : k < l.length := by rw [← HNL.out]; exact hlk
          obtain ⟨a', c', he, -, -, hp⟩ := HL8.out
          rw [← HNL.out] at he
          cases he
          obtain ⟨gl, ol, rfl, hgl, hdr⟩ := hp.resolve_left (by omega)
          have HDR := hide (drC_below (hdr k hkl) HBO.out hgl)
          have hdok := (dirsB_at HD.out hkl).1
          have hdm : l[k] ∈ l := List.getElem_mem hkl
          obtain ⟨d, hd⟩ : ∃ d, d = l[k] := ⟨_, rfl⟩
          rw [← hd] at HDR hdok hdm
          obtain ⟨dx, dy⟩ := d
          obtain ⟨c0, c1⟩ := HDR.out
          simp only at c0 c1 hdok
          obtain ⟨M, hM, hM41⟩ := countL_size (near_of hdok) HRC.out.1 HRC.out.2
          obtain ⟨LR, hLR⟩ : ∃ LR, LR = lineRow R C f dx dy M := ⟨_, rfl⟩
          have hLX : lineRow R C (plusF f G) dx dy M = LR := by rw [hLR, ← lineRow_img HIX.out, ← lineRow_img HIM.out, HSAME.out (dx, dy) hdm]
          have HLX := hide fun (w2 : World) (hb : Below w8.heap.size w8 w2) => implLineSums_yes (.slice xa xn xc) R C M (plusF f G) dx dy w2 (inMat_below HX8.out hb) HIX.out hdok hM hM41
          have HLM := hide fun (w2 : World) (hb : Below w8.heap.size w8 w2) => implLineSums_yes (.slice ma mn mc) R C M f dx dy w2 (inMat_below HM8.out hb) HIM.out hdok hM hM41
          rw [hLX] at HLX
          rw [← hLR] at HLM
          have HAL := hide ((Below.refl wo.heap.size wo).alloc (Nat.le_refl _) (.cells #[.int .i64 dx, .int .i64 dy] 29))
          have HD1 := hide (show DirAt (wo.alloc (.cells #[.int .i64 dx, .int .i64 dy] 29)) wo.heap.size dx dy from heap_alloc_new wo _)
          have HB1 := hide (HBO.out.trans (HAL.out.mono HBO.out.size))
          have HB2 := HAL
          clear hp hdr hd HDR hdok hdm hM hM41 hLR hLX HAL
          go_upto_region 19 with fail
          obtain ⟨fs, hfs⟩ : ∃ fs : List FactP, fs = [(isV (.slice xa xn xc)), (isV (.agg #[.int .i64 dx, .int .i64 dy])), (fun u w2 => InRow w2 u LR), (isV (.slice ma mn mc)), (isV (.agg #[.int .i64 dx, .int .i64 dy])), (fun u w2 => InRow w2 u LR), (isV (.bool true))] := ⟨_, rfl⟩
          have hst : ∀ f ∈ fs, StableP f := by
            rw [hfs]; intro f hf
            simp only [List.mem_cons, List.not_mem_nil, or_false] at hf
            rcases hf with rfl | rfl | rfl | rfl | rfl | rfl | rfl <;> first | exact stable_v _ | exact fun u w2 w3 hb h => inRow_below h hb
          subst hfs
          refine wp_region_g (S := fun w2 => DirAt w2 wo.heap.size dx dy ∧ Below w8.heap.size w8 w2 ∧ Below wo.heap.size wo w2) [(isV (.slice xa xn xc)), (isV (.agg #[.int .i64 dx, .int .i64 dy])), (fun u w2 => InRow w2 u LR), (isV (.slice ma mn mc)), (isV (.agg #[.int .i64 dx, .int .i64 dy])), (fun u w2 => InRow w2 u LR), (isV (.bool true))] [(8, .slice ma mn mc), (9, .slice xa xn xc), (12, .pointer (some ⟨wo.heap.size, 0, none⟩))] _ _ 7 (by kernel_rfl) rfl rfl (by kernel_rfl) (by kernel_rfl) rfl (by kernel_rfl) ?base ⟨HD1.out, below_drew HB1.out, below_drew HB2.out⟩ ?ob rfl ?fin
          case base =>
            intro t v ht
            simp only [List.lookup_cons, List.lookup_nil] at ht
            repeat' split at ht
            all_goals first | (cases ht; done) | (obtain rfl := Option.some.inj ht; rename_i hh; obtain rfl := eq_of_beq hh; rfl)
          case ob =>
            exact ⟨obg_of rfl (obt_move (.slice xa xn xc) rfl rfl rfl (srt_b 9 rfl)),
              obg_of rfl (obt_one (.agg #[.int .i64 dx, .int .i64 dy]) rfl rfl (srt_b 12 rfl) (fun ρ w2 hS hx => exec_loadDir rfl hx hS.1)),
              obg_of rfl (obt_call hst [.slice xa xn xc, .agg #[.int .i64 dx, .int .i64 dy]] rfl Try.func9 (by kernel_rfl) (by kernel_rfl) rfl ⟨(srt_j 0 rfl (by kernel_rfl) rfl), (srt_j 1 rfl (by kernel_rfl) rfl), trivial⟩ (fun w2 hS => (HLX.out w2 hS.2.1).mono fun e w3 ⟨u, he, ho, hh⟩ => ⟨_, he, ⟨dirAt_below hS.1 hh, hS.2.1.trans (hh.mono hS.2.1.size), hS.2.2.trans (hh.mono hS.2.2.size)⟩, hh, inRow_own ho⟩)),
              obg_of rfl (obt_move (.slice ma mn mc) rfl rfl rfl (srt_b 8 rfl)),
              obg_of rfl (obt_one (.agg #[.int .i64 dx, .int .i64 dy]) rfl rfl (srt_b 12 rfl) (fun ρ w2 hS hx => exec_loadDir rfl hx hS.1)),
              obg_of rfl (obt_call hst [.slice ma mn mc, .agg #[.int .i64 dx, .int .i64 dy]] rfl Try.func9 (by kernel_rfl) (by kernel_rfl) rfl ⟨(srt_j 3 rfl (by kernel_rfl) rfl), (srt_j 4 rfl (by kernel_rfl) rfl), trivial⟩ (fun w2 hS => (HLM.out w2 hS.2.1).mono fun e w3 ⟨u, he, ho, hh⟩ => ⟨_, he, ⟨dirAt_below hS.1 hh, hS.2.1.trans (hh.mono hS.2.1.size), hS.2.2.trans (hh.mono hS.2.2.size)⟩, hh, inRow_own ho⟩)),
              obg_of rfl (obt_call_2 hst 2 5 rfl Try.func13 (by kernel_rfl) (by kernel_rfl) rfl rfl (by kernel_rfl) rfl (by kernel_rfl) (fun v u w2 hS h1 h2 => (same_any v u LR LR w2 h1 h2).mono fun e w3 ⟨he, hw⟩ => ⟨_, he.trans (by rw [beq_self_eq_true]), hw ▸ hS, hw ▸ Below.refl _ _, rfl⟩)),
              trivial⟩
          case fin =>
            intro a' w' h1 h2 h3 hS h4 K hK
            have ha := frame_ov rfl h1 h2 h3 [(99, .slice xa xn xc), (100, .agg #[.int .i64 dx, .int .i64 dy]), (101, a'.tmps.getD 101 undef), (102, .slice ma mn mc), (103, .agg #[.int .i64 dx, .int .i64 dy]), (104, a'.tmps.getD 104 undef), (105, .bool true), (106, a'.tmps.getD 106 undef)] (by kernel_rfl) ⟨h4 0 99 rfl (by decide), h4 1 100 rfl (by decide), rfl, h4 3 102 rfl (by decide), h4 4 103 rfl (by decide), rfl, h4 6 105 rfl (by decide), rfl, trivial⟩
            dsimp only [ov, List.lookup, Nat.reduceBEq, Nat.reduceAdd] at ha
            refine run_value (.bool false) (exec_notg (b := true) rfl (h4 6 105 rfl (by decide))) (hK (.bool false) _ ?_)
            show Exit.then _ _ Exit.normal (Act.put a' (some 106) (.bool false)) _
            rw [ha]
            generalize a'.tmps.getD 101 undef = u101
            generalize a'.tmps.getD 104 undef = u104
            generalize a'.tmps.getD 106 undef = u106
            clear ha h1 h2 h3 h4 hst hK
            have HB9 := hide hS.2.1
            go_wp2
            go_roundw
            case rel => exact ⟨k + 1, by omega, by go_num, HB9.out⟩
            case measure => simp [intOf]; omega
        · obtain rfl : k = N := by omega
          have HX9 := hide (inMat_below HX8.out HBO.out)
          have HM9 := hide (inMat_below HM8.out HBO.out)
          go_wp2_with ((with_reducible refine (alike_any _ _ _ _ _ HX9.out HM9.out).mono ?_); rw [HDIF.out]; rintro e w9 ⟨rfl, hb9⟩; have HB9 := hide ((HB8.out.trans (HBO.out.mono HB8.out.size)).trans (hb9.mono (Nat.le_trans HB8.out.size HBO.out.size))); clear hb9)
          go_ret
          exact ⟨rfl, HB9.out⟩
end Go.Proofs.Ytjnnoabaepmcnaa
/-
  The law FnGhosts.
-/
namespace Go.Proofs.Ytjnnoabaepmcnaa
open Go.RowKit

theorem lawGhosts_walk (a : Option Addr) (n c : Nat) (w : World) (hin : InBytes w w.heap.size a n) :
    Calls Try.prog 4 #[.slice a n c] w fun e w' => e = .returned (.bool true) ∧ Below w.heap.size w w' :=
  lawGhosts_gen a n c w hin fun h => makeDirs_any n c a 20 w hin (by omega) (by omega)
end Go.Proofs.Ytjnnoabaepmcnaa
