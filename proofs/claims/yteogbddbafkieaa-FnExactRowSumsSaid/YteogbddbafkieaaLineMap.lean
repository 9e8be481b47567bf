/-
  lineMapOf: the program's map of lines.
-/
import Derived.Test.YteogbddbafkieaaLEnt
import Derived.Test.YteogbddbafkieaaImg
import Derived.Deep.CutRange
import Derived.Deep.LoopGhost
namespace Go.Proofs.Yteogbddbafkieaa
open Go.RowKit Go.Maps
open Go.ChangeMaps (setBlock)

/-- Cell number i is black and lies on the line. -/
def onL (C : Nat) (f : Nat → Nat → Int) (d : Int × Int) (n : Int) (i : Nat) : Bool := f (i / C) (i % C) == 1 && lnum d.1 d.2 C (i / C : Nat) (i % C : Nat) == n
/-- What the first i cells give to a line, along d. -/
def lineC (C : Nat) (f : Nat → Nat → Int) (d : Int × Int) (i : Nat) (k : Key) : Int := if k.x = d.1 ∧ k.y = d.2 then (cnt (onL C f d k.n) i : Nat) else 0
def linesC (C : Nat) (f : Nat → Nat → Int) (N : Nat) (k : Key) : List (Int × Int) → Int
  | [] => 0
  | d :: r => lineC C f d N k + linesC C f N k r
theorem linesC_snoc (C : Nat) (f : Nat → Nat → Int) (N : Nat) (k : Key) (d : Int × Int) : ∀ l : List (Int × Int), linesC C f N k (l ++ [d]) = linesC C f N k l + lineC C f d N k
  | [] => by simp [linesC]
  | x :: l => by rw [List.cons_append, linesC, linesC, linesC_snoc C f N k d l]; omega
theorem lineC_range (C : Nat) (f : Nat → Nat → Int) (d : Int × Int) (i : Nat) (k : Key) : 0 ≤ lineC C f d i k ∧ lineC C f d i k ≤ i := by
  unfold lineC
  have := cnt_le (onL C f d k.n) i
  split <;> omega
theorem linesC_range (C : Nat) (f : Nat → Nat → Int) (N : Nat) (k : Key) : ∀ l : List (Int × Int), 0 ≤ linesC C f N k l ∧ linesC C f N k l ≤ N * l.length
  | [] => by simp [linesC]
  | d :: l => by
    have h1 := lineC_range C f d N k
    have h2 := linesC_range C f N k l
    have e : (N : Int) * ((l.length + 1 : Nat) : Int) = N * l.length + N := by rw [Int.natCast_add, Int.mul_add]; simp
    rw [linesC, List.length_cons, e]
    omega
/-- The directions lie one behind the other. -/
def InDirs (w : World) (v : Value) (ds : List (Int × Int)) : Prop :=
  ∃ g c, v = .slice (some ⟨g, 0, none⟩) ds.length c ∧ g < w.heap.size ∧ ∀ i, (h : i < ds.length) → w.cell? ⟨g, i * 2, none⟩ = some (.int .i64 ds[i].1) ∧ w.cell? ⟨g, i * 2 + 1, none⟩ = some (.int .i64 ds[i].2)
theorem inDirs_below {w w' : World} {v : Value} {ds : List (Int × Int)} (h : InDirs w v ds) (hb : Below w.heap.size w w') : InDirs w' v ds := by
  obtain ⟨g, c, hv, hg, hc⟩ := h
  exact ⟨g, c, hv, Nat.lt_of_lt_of_le hg hb.size, fun i hi => ⟨below_cell hb hg (hc i hi).1, below_cell hb hg (hc i hi).2⟩⟩
theorem onL_at {C : Nat} {f : Nat → Nat → Int} {d : Int × Int} {n : Int} {y x : Nat} (hx : x < C) : onL C f d n (C * y + x) = (f y x == 1 && lnum d.1 d.2 C y x == n) := by
  have h1 : (C * y + x) / C = y := by rw [Nat.mul_add_div (by omega), Nat.div_eq_of_lt hx]; omega
  have h2 : (C * y + x) % C = x := by rw [Nat.mul_add_mod, Nat.mod_eq_of_lt hx]
  rw [onL, h1, h2]
theorem lineC_white {C : Nat} {f : Nat → Nat → Int} {d : Int × Int} {y x : Nat} (hx : x < C) (h : f y x = 0) (k : Key) : lineC C f d (C * y + (x + 1)) k = lineC C f d (C * y + x) k := by
  have e : onL C f d k.n (C * y + x) = false := by rw [onL_at hx, h]; rfl
  unfold lineC
  rw [← Nat.add_assoc, cnt_no e]
theorem lineC_black {C : Nat} {f : Nat → Nat → Int} {d : Int × Int} {y x : Nat} (hx : x < C) (h : f y x = 1) (k : Key) :
    lineC C f d (C * y + (x + 1)) k = if k = ⟨d.1, d.2, lnum d.1 d.2 C y x⟩ then lineC C f d (C * y + x) k + 1 else lineC C f d (C * y + x) k := by
  obtain ⟨kx, ky, kn⟩ := k
  unfold lineC
  by_cases hk : kx = d.1 ∧ ky = d.2
  · rw [if_pos hk, if_pos hk, ← Nat.add_assoc]
    by_cases hn : lnum d.1 d.2 C y x = kn
    · have e : onL C f d kn (C * y + x) = true := by rw [onL_at hx, h, hn]; simp
      rw [cnt_yes e, if_pos (by rw [hn, hk.1, hk.2])]; simp
    · have e : onL C f d kn (C * y + x) = false := by rw [onL_at hx]; simp [hn]
      rw [cnt_no e, if_neg (fun h => hn (by cases h; rfl))]
  · rw [if_neg hk, if_neg hk, if_neg (fun h => hk (by cases h; exact ⟨rfl, rfl⟩))]

/-- The lines behind j directions and i cells of the next one. -/
def upL (C : Nat) (f : Nat → Nat → Int) (N : Nat) (ds : List (Int × Int)) (d : Int × Int) (i : Nat) (k : Key) : Int := linesC C f N k ds + lineC C f d i k
def thereK (F : Key → Int) (k : Key) : Bool := decide (F k ≠ 0)

theorem exec_loadDirA {ρ : Operand → Value} {o : Oper} {w : World} {x : Operand} {g i : Nat} {dx dy : Int} (ho : o.op = .load 34 x) (hx : ρ x = .pointer (some ⟨g, i, none⟩)) (h1 : w.cell? ⟨g, i, none⟩ = some (.int .i64 dx)) (h2 : w.cell? ⟨g, i + 1, none⟩ = some (.int .i64 dy)) :
    (execOp ρ o).run Try.prog w = .ok (.value (.agg #[.int .i64 dx, .int .i64 dy])) w := by
  unfold execOp
  simp only [ho, hx]
  go_simp

theorem exec_storeK {ρ : Operand → Value} {o : Oper} {w w' : World} {m s x : Operand} {b st : Nat} {v : Int} (ho : o.op = .entryStore 52 m s x) (hm : ρ m = .map (some b)) (hs : ρ s = .int .i64 st) (hx : ρ x = .int .i64 v)
    (hrun : (Instr.entryStore 52 (.map (some b)) (.int .i64 st) (.int .i64 v)).run Try.prog w = .ok () w') : (execOp ρ o).run Try.prog w = .ok .skip w' := by
  unfold execOp
  simp only [ho, hm, hs, hx]
  simp [hrun, Result.andThen]
theorem grown_step {a b c : World} {row : Nat} (h : Below a.heap.size a b) (hg : b.grownBy c (some row)) (hr : a.heap.size ≤ row) : Below a.heap.size a c := h.trans (grown_below hg (fun k hk => by cases hk; exact hr) h.size)
theorem key_wf {a b n : Int} (h1 : (Lit.int .i64 a).wf = true) (h2 : (Lit.int .i64 b).wf = true) (h3 : (Lit.int .i64 n).wf = true) : (⟨a, b, n⟩ : Key).wf := ⟨h1, h2, h3⟩

set_option maxRecDepth 100000 in
set_option maxHeartbeats 4000000 in
theorem lineMapOf_any (v u : Value) (R C : Nat) (f : Nat → Nat → Int) (ds : List (Int × Int)) (w : World) (hin : InMat w v (mkM R C f)) (hI : Img R C f) (hd : InDirs w u ds) (hl : ds.length ≤ 2) (hok : ∀ d ∈ ds, Near d.1 d.2) :
    Calls Try.prog 48 #[v, u] w fun e w' => ∃ b, e = .returned (.map (some b)) ∧ w.heap.size ≤ b ∧ LM w' b 50 (thereK fun k => linesC C f (R * C) k ds) (fun k => linesC C f (R * C) k ds) ∧ Below w.heap.size w w' := by
  have hmm := @run_makeMap Try.prog
  obtain ⟨g, o, cap, rfl, hg, hrow⟩ := inMat_img hin (by have := hI.r1; omega) (by have := hI.c1; omega)
  obtain ⟨gd, cd, rfl, hgd, hdc⟩ := hd
  have HROW := hide hrow; have HDC := hide hdc; have HI := hide hI; have HOK := hide hok
  clear hin hrow hdc hok
  obtain ⟨r1, r2, c1, c2, -⟩ := hI
  obtain ⟨L, hL⟩ : ∃ L, L = ds.length := ⟨_, rfl⟩
  have HL := hide hL
  rw [← hL] at hl ⊢
  clear hL
  have HLM0 := hide (lm_made w)
  have HB0 := hide ((Below.refl w.heap.size w).alloc (Nat.le_refl _) (.map #[] 0))
  go_enter Try.func48, Try.ntmps48
  go_wp2
  clear hmm
  go_loopw [15] (fun i wr => ∃ j : Nat, j ≤ L ∧ i = .int .i64 j ∧ LM wr w.heap.size (25 * j) (thereK fun k => linesC C f (R * C) k (ds.take j)) (fun k => linesC C f (R * C) k (ds.take j)) ∧ Below w.heap.size w wr) (fun i _ => L - (intOf i).toNat)
  case atStart => exact ⟨0, Nat.zero_le _, rfl, HLM0.out, HB0.out⟩
  case round =>
    obtain ⟨wo, rfl⟩ : ∃ wo, wo = wr := ⟨_, rfl⟩
    obtain ⟨j, hj, rfl, hlm, hb⟩ := hrel
    have hlw := lm_lt hlm
    have HLM := hide hlm; have HB := hide hb
    clear hlm hb
    by_cases hlt : j < L
    · have hj' : j < ds.length := by rw [← HL.out]; exact hlt
      obtain ⟨hc1, hc2⟩ := HDC.out j hj'
      have hc1 := below_cell HB.out hgd hc1
      have hc2 := below_cell HB.out hgd hc2
      have HN := hide (HOK.out _ (List.getElem_mem hj'))
      have HTK := hide (List.take_succ_eq_append_getElem hj')
      obtain ⟨dx, hdx⟩ : ∃ x, x = ds[j].1 := ⟨_, rfl⟩
      obtain ⟨dy, hdy⟩ : ∃ x, x = ds[j].2 := ⟨_, rfl⟩
      have HD := hide (show ds[j] = (dx, dy) by rw [hdx, hdy])
      rw [← hdx] at hc1 HN
      rw [← hdy] at hc2 HN
      clear hdx hdy
      go_wp2
      go_loopw [21] (fun i w2 => ∃ y : Nat, y ≤ R ∧ i = .int .i64 y ∧ LM w2 w.heap.size (25 * j + C * y) (thereK (upL C f (R * C) (ds.take j) (dx, dy) (C * y))) (upL C f (R * C) (ds.take j) (dx, dy) (C * y)) ∧ Below w.heap.size w w2 ∧ DirAt w2 wo.heap.size dx dy) (fun i _ => R - (intOf i).toNat)
      case atStart =>
        have hb1 : Below wo.heap.size wo (wo.alloc (.cells #[.int .i64 dx, .int .i64 dy] 34)) := (Below.refl _ _).alloc (Nat.le_refl _) _
        exact ⟨0, Nat.zero_le _, rfl, lm_congr (lm_below HLM.out hb1) (fun k _ => by simp [thereK, upL, lineC, cnt]) (fun k _ => by simp [upL, lineC, cnt]), HB.out.trans (hb1.mono HB.out.size), heap_alloc_new wo _⟩
      case round =>
        obtain ⟨y, hy, rfl, hlm, hb, hg2⟩ := hrel
        have HLM := hide hlm; have HB2 := hide hb; have HG := hide hg2
        clear hlm hb hg2
        by_cases hly : y < R
        · obtain ⟨g', o', c', hcr, hg', hcell⟩ := HROW.out y hly
          have hcr := below_cell HB2.out hg hcr
          have HCELL := hide hcell
          clear hcell
          go_wp2
          go_loopw [28] (fun i w3 => ∃ x : Nat, x ≤ C ∧ i = .int .i64 x ∧ LM w3 w.heap.size (25 * j + (C * y + x)) (thereK (upL C f (R * C) (ds.take j) (dx, dy) (C * y + x))) (upL C f (R * C) (ds.take j) (dx, dy) (C * y + x)) ∧ Below w.heap.size w w3 ∧ DirAt w3 wo.heap.size dx dy) (fun i _ => C - (intOf i).toNat)
          case atStart => exact ⟨0, Nat.zero_le _, rfl, HLM.out, HB2.out, HG.out⟩
          case round =>
            obtain ⟨x, hx, rfl, hlm, hb, hg2⟩ := hrel
            have HLM3 := hide hlm; have HB3 := hide hb; have HG3 := hide hg2
            clear hlm hb hg2
            by_cases hlx : x < C
            · have hcx := below_cell HB3.out hg' (HCELL.out x hlx)
              rcases HI.out.cell y x hly hlx with hf | hf
              · have HW := hide (fun k => lineC_white (C := C) (f := f) (d := (dx, dy)) hlx hf k)
                rw [hf] at hcx
                clear hf
                go_wp2
                go_roundw
                case rel => exact ⟨x + 1, by omega, by go_num, lm_congr (lm_mono HLM3.out (by omega)) (fun k _ => by unfold thereK upL; rw [HW.out k]) (fun k _ => by unfold upL; rw [HW.out k]), HB3.out, HG3.out⟩
                case measure => simp [intOf]; omega
              · have HBK := hide (fun k => lineC_black (C := C) (f := f) (d := (dx, dy)) hlx hf k)
                rw [hf] at hcx
                clear hf
                go_upto_region 12 with fail
                have hcy : C * y ≤ 5 * 4 := Nat.mul_le_mul c2 (by omega)
                obtain ⟨n1, n2, n3, n4⟩ := HN.out
                obtain ⟨p1, p2, -⟩ := lnum_range (rows := R) (cols := C) (y := y) (x := x) HN.out (by omega) (by omega) (by omega) (by omega) (by omega) (by omega) (by omega) (by omega)
                obtain ⟨k, hkk⟩ : ∃ k : Key, k = ⟨dx, dy, lnum dx dy C y x⟩ := ⟨_, rfl⟩
                have HK := hide hkk
                have hkw : k.wf := by rw [hkk]; exact key_wf (WalkArith.wf_i64 (by omega)) (WalkArith.wf_i64 (by omega)) (WalkArith.wf_i64 (by omega))
                have HKW := hide hkw
                have hkv : Value.agg #[.int .i64 dx, .int .i64 dy, .int .i64 (lnum dx dy C y x)] = keyV k := by rw [hkk]; rfl
                clear hkk hkw
                obtain ⟨E0, E1, st, hE0, hE⟩ := lm_ent HLM3.out (by unfold maxLen; omega) HKW.out
                have HE := hide hE; have HE0 := hide hE0
                clear hE hE0
                obtain ⟨c, hcc⟩ : ∃ c, c = upL C f (R * C) (ds.take j) (dx, dy) (C * y + x) k := ⟨_, rfl⟩
                have HCC := hide hcc
                have hc0 : 0 ≤ c ∧ c ≤ 100 := by
                  have h1 := linesC_range C f (R * C) k (ds.take j)
                  have h2 := lineC_range C f (dx, dy) (C * y + x) k
                  have h3 : ((R * C : Nat) : Int) * ((ds.take j).length : Int) ≤ 50 := by
                    have : R * C * (ds.take j).length ≤ 25 * 2 := Nat.mul_le_mul (Nat.mul_le_mul r2 c2) (by rw [List.length_take]; omega)
                    exact_mod_cast this
                  rw [hcc]; unfold upL; omega
                obtain ⟨hc0, hc1'⟩ := hc0
                clear hcc
                have l1 : IntKind.i64.wrap (c + 1) = c + 1 := IntWalk.i64_in _ (by omega)
                obtain ⟨fs, hfs⟩ : ∃ fs : List FactP, fs = [isV (.map (some w.heap.size)), isV (.agg #[.int .i64 dx, .int .i64 dy]), isV (.slice (some ⟨g', o', none⟩) C c'), isV (.int .i64 C), isV (.agg #[.int .i64 dx, .int .i64 dy]), isV (.int .i64 y), isV (.int .i64 x), isV (.int .i64 (lnum dx dy C y x)), isV (keyV k), isV (.int .i64 c), isV (.int .i64 (c + 1)), isB (.tuple #[.int .i64 c, .int .i64 st]) w.heap.size E1, isV (.int .i64 st)] := ⟨_, rfl⟩
                have hst : ∀ f ∈ fs, StableP f := by
                  rw [hfs]; intro f hf
                  simp only [List.mem_cons, List.not_mem_nil, or_false] at hf
                  rcases hf with rfl | rfl | rfl | rfl | rfl | rfl | rfl | rfl | rfl | rfl | rfl | rfl | rfl <;> first | exact stable_v _ | exact stable_b _ _ _
                have hout : ∀ f ∈ fs, OutP w.heap.size E1 f := by
                  rw [hfs]; intro f hf
                  simp only [List.mem_cons, List.not_mem_nil, or_false] at hf
                  rcases hf with rfl | rfl | rfl | rfl | rfl | rfl | rfl | rfl | rfl | rfl | rfl | rfl | rfl <;> first | exact out_v _ _ _ | exact out_b _ _ _
                subst hfs
                refine wp_region_tail (S := fun w2 => DirAt w2 wo.heap.size dx dy ∧ Below w.heap.size w w2 ∧ (w2.heap[w.heap.size]? = some E0 ∨ w2.heap[w.heap.size]? = some E1)) [isV (.map (some w.heap.size)), isV (.agg #[.int .i64 dx, .int .i64 dy]), isV (.slice (some ⟨g', o', none⟩) C c'), isV (.int .i64 C), isV (.agg #[.int .i64 dx, .int .i64 dy]), isV (.int .i64 y), isV (.int .i64 x), isV (.int .i64 (lnum dx dy C y x)), isV (keyV k), isV (.int .i64 c), isV (.int .i64 (c + 1)), isB (.tuple #[.int .i64 c, .int .i64 st]) w.heap.size E1, isV (.int .i64 st)] [(5, .map (some w.heap.size)), (7, .pointer (some ⟨wo.heap.size, 0, none⟩)), (8, .int .i64 y), (9, .slice (some ⟨g', o', none⟩) C c'), (10, .int .i64 x)] _ _ 13 (by kernel_rfl) rfl rfl (by kernel_rfl) (by kernel_rfl) rfl (by kernel_rfl) ?base ⟨HG3.out, below_drew HB3.out, .inl HE0.out⟩ ?ob rfl ?fin
                case base =>
                  intro t v ht
                  simp only [List.lookup_cons, List.lookup_nil] at ht
                  repeat' split at ht
                  all_goals first | (cases ht; done) | (obtain rfl := Option.some.inj ht; rename_i hh; obtain rfl := eq_of_beq hh; rfl)
                case ob =>
                  exact ⟨obt_move (.map (some w.heap.size)) rfl rfl rfl (srt_b 5 rfl),
                    obt_one (.agg #[.int .i64 dx, .int .i64 dy]) rfl rfl (srt_b 7 rfl) (fun ρ w2 hS hx => exec_loadDir rfl hx hS.1),
                    obt_move (.slice (some ⟨g', o', none⟩) C c') rfl rfl rfl (srt_b 9 rfl),
                    obt_one (.int .i64 C) rfl rfl (srt_j 2 rfl (by kernel_rfl) rfl) (fun ρ w2 hS hx => by go_simp),
                    obt_one (.agg #[.int .i64 dx, .int .i64 dy]) rfl rfl (srt_b 7 rfl) (fun ρ w2 hS hx => exec_loadDir rfl hx hS.1),
                    obt_move (.int .i64 y) rfl rfl rfl (srt_b 8 rfl),
                    obt_move (.int .i64 x) rfl rfl rfl (srt_b 10 rfl),
                    obt_call hst [.int .i64 C, .agg #[.int .i64 dx, .int .i64 dy], .int .i64 y, .int .i64 x] rfl Try.func46 (by kernel_rfl) (by kernel_rfl) rfl ⟨(srt_j 3 rfl (by kernel_rfl) rfl), (srt_j 4 rfl (by kernel_rfl) rfl), (srt_j 5 rfl (by kernel_rfl) rfl), (srt_j 6 rfl (by kernel_rfl) rfl), trivial⟩ (fun w2 hS => (lineNumber_any dx dy C y x w2 HN.out ⟨by omega, by omega⟩ ⟨by omega, by omega⟩ ⟨by omega, by omega⟩).mono fun e w3 hh => ⟨_, hh.1, ⟨dirAt_below hS.1 hh.2, hS.2.1.trans (hh.2.mono hS.2.1.size), ent_below hS.2.2 hh.2⟩, hh.2, rfl⟩),
                    obt_two (keyV k) rfl rfl (srt_j 1 rfl (by kernel_rfl) rfl) (srt_j 7 rfl (by kernel_rfl) rfl) (fun ρ w2 hS hx hy => by rw [← hkv]; exact exec_keyV rfl hx hy),
                    obt_two (.int .i64 c) rfl rfl (srt_j 0 rfl (by kernel_rfl) rfl) (srt_j 8 rfl (by kernel_rfl) rfl) (fun ρ w2 hS hx hy => exec_lookupK rfl hx hy (by rw [HCC.out]; exact HE.out.look w2 hS.2.2)),
                    obt_two (.int .i64 (c + 1)) rfl rfl (srt_j 9 rfl (by kernel_rfl) rfl) (srt_c (v := .int .i64 1)) (fun ρ w2 hS hx hy => by go_simp),
                    obt_entry (by have := HE.out; exact this) rfl (by rw [HCC.out]; rfl) rfl (srt_j 0 rfl (by kernel_rfl) rfl) (srt_j 8 rfl (by kernel_rfl) rfl) hout (fun w2 hS => hS.2.2) (fun w2 hS => ⟨(sb_other w2 E1 (by omega)).trans hS.1, grown_step hS.2.1 (sb_grown w2 _ _) (Nat.le_refl _), .inr (hS.2.2.elim sb_same sb_same)⟩),
                    obt_stamp 11 rfl rfl rfl rfl (by kernel_rfl) rfl,
                    trivial⟩
                case fin =>
                  intro a' w' h1 h2 h3 hS h4 K hK
                  have v35 : a'.tmps.getD 35 undef = .map (some w.heap.size) := h4 0 35 rfl (by decide)
                  have v47 : a'.tmps.getD 47 undef = .int .i64 st := h4 12 47 rfl (by decide)
                  have v45 : a'.tmps.getD 45 undef = .int .i64 (c + 1) := h4 10 45 rfl (by decide)
                  have hb1 : w'.heap[w.heap.size]? = some E1 := (h4 11 46 rfl (by decide)).2
                  obtain ⟨E', hrun, hlm'⟩ := HE.out.store w' (c + 1) (WalkArith.wf_i64 (by omega)) hb1
                  refine run_skip (w' := setBlock w' w.heap.size E') ?_ (hK _ _ ?_)
                  · exact exec_storeK rfl v35 v47 v45 hrun
                  · have HF : ∀ k', upL C f (R * C) (ds.take j) (dx, dy) (C * y + (x + 1)) k' = setK (upL C f (R * C) (ds.take j) (dx, dy) (C * y + x)) k (c + 1) k' := fun k' => by
                      unfold upL setK
                      rw [HBK.out k']
                      by_cases e : k' = k
                      · rw [if_pos e, if_pos (by rw [e, HK.out]), HCC.out, e]; unfold upL; omega
                      · rw [if_neg e, if_neg (fun h => e (by rw [h, HK.out]))]
                    have HT : ∀ k', setK (thereK (upL C f (R * C) (ds.take j) (dx, dy) (C * y + x))) k true k' = thereK (upL C f (R * C) (ds.take j) (dx, dy) (C * y + (x + 1))) k' := fun k' => by
                      unfold thereK
                      rw [HF k']
                      unfold setK
                      by_cases e : k' = k
                      · rw [if_pos e, if_pos e]; exact (decide_eq_true (by omega)).symm
                      · rw [if_neg e, if_neg e]
                    have Q1 := hide (lm_congr hlm' (fun k' _ => HT k') (fun k' _ => (HF k').symm))
                    have Q2 := hide (grown_step hS.2.1 (sb_grown w' _ E') (Nat.le_refl _))
                    have Q3 : Hid (DirAt (setBlock w' w.heap.size E') wo.heap.size dx dy) := hide ((sb_other w' E' (by omega)).trans hS.1)
                    have ha : a' = ⟨List.toArray [.slice (some ⟨g, o, none⟩) R cap, .slice (some ⟨gd, 0, none⟩) L cd, undef, undef, .map none, .map (some w.heap.size), undef, .pointer (some ⟨wo.heap.size, 0, none⟩), .int .i64 y, .slice (some ⟨g', o', none⟩) C c', .int .i64 x, .int .i64 1, .map (some w.heap.size), .slice (some ⟨gd, 0, none⟩) L cd, .int .i64 L, .int .i64 j, .bool true, .pointer (some ⟨gd, j * 2, none⟩), .agg #[.int .i64 dx, .int .i64 dy], .slice (some ⟨g, o, none⟩) R cap, .int .i64 R, .int .i64 y, .bool true, .int .i64 y, .pointer (some ⟨g, o + y, none⟩), .slice (some ⟨g', o', none⟩) C c', .slice (some ⟨g', o', none⟩) C c', .int .i64 C, .int .i64 x, .bool true, .int .i64 x, .pointer (some ⟨g', o' + x, none⟩), .int .i64 1, .int .i64 1, .bool true, a'.tmps.getD 35 undef, a'.tmps.getD 36 undef, a'.tmps.getD 37 undef, a'.tmps.getD 38 undef, a'.tmps.getD 39 undef, a'.tmps.getD 40 undef, a'.tmps.getD 41 undef, a'.tmps.getD 42 undef, a'.tmps.getD 43 undef, a'.tmps.getD 44 undef, a'.tmps.getD 45 undef, a'.tmps.getD 46 undef, a'.tmps.getD 47 undef, u48, u49, u50, undef], []⟩ := frame_eq _ h1 h2 ⟨(h3 0 (by kernel_rfl)), (h3 1 (by kernel_rfl)), (h3 2 (by kernel_rfl)), (h3 3 (by kernel_rfl)), (h3 4 (by kernel_rfl)), (h3 5 (by kernel_rfl)), (h3 6 (by kernel_rfl)), (h3 7 (by kernel_rfl)), (h3 8 (by kernel_rfl)), (h3 9 (by kernel_rfl)), (h3 10 (by kernel_rfl)), (h3 11 (by kernel_rfl)), (h3 12 (by kernel_rfl)), (h3 13 (by kernel_rfl)), (h3 14 (by kernel_rfl)), (h3 15 (by kernel_rfl)), (h3 16 (by kernel_rfl)), (h3 17 (by kernel_rfl)), (h3 18 (by kernel_rfl)), (h3 19 (by kernel_rfl)), (h3 20 (by kernel_rfl)), (h3 21 (by kernel_rfl)), (h3 22 (by kernel_rfl)), (h3 23 (by kernel_rfl)), (h3 24 (by kernel_rfl)), (h3 25 (by kernel_rfl)), (h3 26 (by kernel_rfl)), (h3 27 (by kernel_rfl)), (h3 28 (by kernel_rfl)), (h3 29 (by kernel_rfl)), (h3 30 (by kernel_rfl)), (h3 31 (by kernel_rfl)), (h3 32 (by kernel_rfl)), (h3 33 (by kernel_rfl)), (h3 34 (by kernel_rfl)), rfl, rfl, rfl, rfl, rfl, rfl, rfl, rfl, rfl, rfl, rfl, rfl, rfl, (h3 48 (by kernel_rfl)), (h3 49 (by kernel_rfl)), (h3 50 (by kernel_rfl)), (h3 51 (by kernel_rfl)), trivial⟩
                    have hp : a'.put none undef = a' := rfl
                    clear hrun hlm' HF HT hb1 v35 v47 v45 h1 h2 h3 h4 hS hst hout
                    rw [show (Option.none : Option Tmp) = none from rfl] at hp
                    refine (congrArg (fun q => Exit.inBlock 5 _ Exit.normal q (setBlock w' w.heap.size E')) (hp.trans ha)).mpr ?_
                    generalize a'.tmps.getD 35 undef = q35
                    generalize a'.tmps.getD 36 undef = q36
                    generalize a'.tmps.getD 37 undef = q37
                    generalize a'.tmps.getD 38 undef = q38
                    generalize a'.tmps.getD 39 undef = q39
                    generalize a'.tmps.getD 40 undef = q40
                    generalize a'.tmps.getD 41 undef = q41
                    generalize a'.tmps.getD 42 undef = q42
                    generalize a'.tmps.getD 43 undef = q43
                    generalize a'.tmps.getD 44 undef = q44
                    generalize a'.tmps.getD 45 undef = q45
                    generalize a'.tmps.getD 46 undef = q46
                    generalize a'.tmps.getD 47 undef = q47
                    generalize setBlock w' w.heap.size E' = w4 at Q1 Q2 Q3 ⊢
                    go_wp2
                    go_roundw
                    case rel => exact ⟨x + 1, by omega, by go_num, Q1.out, Q2.out, Q3.out⟩
                    case measure => simp [intOf]; omega
            · obtain rfl : x = C := by omega
              go_wp2
              go_roundw
              case rel => exact ⟨y + 1, by omega, by go_num, by rw [Nat.mul_succ]; exact HLM3.out, HB3.out, HG3.out⟩
              case measure => simp [intOf]; omega
        · obtain rfl : y = R := by omega
          have HE : Hid (∀ k, upL C f (y * C) (ds.take j) (dx, dy) (C * y) k = linesC C f (y * C) k (ds.take (j + 1))) := hide fun k => by
            rw [HTK.out, HD.out, linesC_snoc, upL, Nat.mul_comm C y]
          have hcy : C * y ≤ 25 := Nat.mul_le_mul c2 r2
          go_wp2
          go_roundw
          case rel => exact ⟨j + 1, by omega, by go_num, lm_congr (lm_mono HLM.out (by omega)) (fun k _ => by unfold thereK; rw [HE.out k]) (fun k _ => HE.out k), HB2.out⟩
          case measure => simp [intOf]; omega
    · obtain rfl : j = L := by omega
      have HE : Hid (ds.take j = ds) := hide (List.take_of_length_le (by have := HL.out; omega))
      go_wp2
      go_ret
      exact ⟨_, rfl, Nat.le_refl _, by have := HLM.out; rw [HE.out] at this; exact lm_mono this (by omega), HB.out⟩
end Go.Proofs.Yteogbddbafkieaa
