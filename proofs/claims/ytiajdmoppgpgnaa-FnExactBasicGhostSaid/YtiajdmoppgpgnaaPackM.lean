/-
  Texts of this claim, one behind the other: MinS.
-/
import Derived.Test.YtiajdmoppgpgnaaPackL
import Derived.Test.YtiajdmoppgpgnaaPackI
/-
  l11Minus of the model: a grid minus its shifted copy.
-/
namespace Go.Proofs.Ytiajdmoppgpgnaa
open Go.RowKit Go.Katz
set_option maxRecDepth 100000

theorem dirAt_cell {w : World} {g : Nat} {dx dy : Int} (h : DirAt w g dx dy) (p : Addr) (v : Value) (hne : g ≠ p.block) : DirAt (w.setCell p v) g dx dy := by
  unfold DirAt; rw [heap_setCell_other w p g v hne]; exact h
def putF (P : Nat → Nat → Int) (i j : Nat) (v : Int) : Nat → Nat → Int := fun y x => if y = i ∧ x = j then v else P y x
/-- Behind a rows and b elements of the next one: what has been added, less what has been taken away. -/
def mnF (G : Nat → Nat → Int) (A B X C a b : Nat) (y x : Nat) : Int :=
  (if A ≤ y ∧ x < C ∧ (y < A + a ∨ (y = A + a ∧ x < b)) then G (y - A) x else 0) - (if B ≤ y ∧ X ≤ x ∧ x < X + C ∧ (y < B + a ∨ (y = B + a ∧ x < X + b)) then G (y - B) (x - X) else 0)
theorem mnF_zero (G : Nat → Nat → Int) (A B X C : Nat) : mnF G A B X C 0 0 = zeroM := by
  funext y x
  unfold mnF
  rw [if_neg (by omega), if_neg (by omega)]; rfl
theorem mnF_row (G : Nat → Nat → Int) (A B X C a : Nat) : mnF G A B X C a C = mnF G A B X C (a + 1) 0 := by
  funext y x
  unfold mnF
  congr 1
  · by_cases h : A ≤ y ∧ x < C ∧ (y < A + a ∨ (y = A + a ∧ x < C))
    · rw [if_pos h, if_pos (by omega)]
    · rw [if_neg h, if_neg (by omega)]
  · by_cases h : B ≤ y ∧ X ≤ x ∧ x < X + C ∧ (y < B + a ∨ (y = B + a ∧ x < X + C))
    · rw [if_pos h, if_pos (by omega)]
    · rw [if_neg h, if_neg (by omega)]
theorem mnF_step (G : Nat → Nat → Int) (A B X0 C a b : Nat) (hb : b < C) (fr tt X : Nat) (hfr : fr = A + a) (hto : tt = B + a) (hX : X = X0 + b) :
    putF (putF (mnF G A B X0 C a b) fr b (mnF G A B X0 C a b fr b + G a b)) tt X (putF (mnF G A B X0 C a b) fr b (mnF G A B X0 C a b fr b + G a b) tt X - G a b) = mnF G A B X0 C a (b + 1) := by
  subst hfr; subst hto; subst hX
  funext y x
  have hP : (if A ≤ y ∧ x < C ∧ (y < A + a ∨ (y = A + a ∧ x < b + 1)) then G (y - A) x else 0) = (if A ≤ y ∧ x < C ∧ (y < A + a ∨ (y = A + a ∧ x < b)) then G (y - A) x else 0) + if y = A + a ∧ x = b then G a b else 0 := by
    by_cases e : y = A + a ∧ x = b
    · obtain ⟨rfl, rfl⟩ := e
      rw [if_pos (by omega), if_neg (by omega), if_pos ⟨rfl, rfl⟩, show A + a - A = a by omega, Int.zero_add]
    · rw [if_neg (c := y = A + a ∧ x = b) e, Int.add_zero]
      by_cases h : A ≤ y ∧ x < C ∧ (y < A + a ∨ (y = A + a ∧ x < b))
      · rw [if_pos h, if_pos (by omega)]
      · rw [if_neg h, if_neg (by omega)]
  have hQ : (if B ≤ y ∧ X0 ≤ x ∧ x < X0 + C ∧ (y < B + a ∨ (y = B + a ∧ x < X0 + (b + 1))) then G (y - B) (x - X0) else 0) = (if B ≤ y ∧ X0 ≤ x ∧ x < X0 + C ∧ (y < B + a ∨ (y = B + a ∧ x < X0 + b)) then G (y - B) (x - X0) else 0) + if y = B + a ∧ x = X0 + b then G a b else 0 := by
    by_cases e : y = B + a ∧ x = X0 + b
    · obtain ⟨rfl, rfl⟩ := e
      rw [if_pos (by omega), if_neg (by omega), if_pos ⟨rfl, rfl⟩, show B + a - B = a by omega, show X0 + b - X0 = b by omega, Int.zero_add]
    · rw [if_neg (c := y = B + a ∧ x = X0 + b) e, Int.add_zero]
      by_cases h : B ≤ y ∧ X0 ≤ x ∧ x < X0 + C ∧ (y < B + a ∨ (y = B + a ∧ x < X0 + b))
      · rw [if_pos h, if_pos (by omega)]
      · rw [if_neg h, if_neg (by omega)]
  have e : mnF G A B X0 C a (b + 1) y x = mnF G A B X0 C a b y x + (if y = A + a ∧ x = b then G a b else 0) - (if y = B + a ∧ x = X0 + b then G a b else 0) := by
    unfold mnF
    rw [hP, hQ]; omega
  rw [e]
  unfold putF
  by_cases e1 : y = B + a ∧ x = X0 + b
  · obtain ⟨rfl, rfl⟩ := e1
    rw [if_pos ⟨rfl, rfl⟩, if_pos (c := B + a = B + a ∧ X0 + b = X0 + b) ⟨rfl, rfl⟩]
    by_cases e2 : B + a = A + a ∧ X0 + b = b
    · rw [if_pos e2, if_pos e2, ← e2.1, ← e2.2]
      simp only [e2.2]
    · rw [if_neg e2, if_neg e2]; omega
  · rw [if_neg e1, if_neg e1]
    by_cases e2 : y = A + a ∧ x = b
    · obtain ⟨rfl, rfl⟩ := e2
      rw [if_pos ⟨rfl, rfl⟩, if_pos ⟨rfl, rfl⟩]; omega
    · rw [if_neg e2, if_neg e2]; omega
theorem mnF_small {R C : Nat} {G : Nat → Nat → Int} {A B X a b : Nat} (hG : ∀ y x, y < R → x < C → (G y x).natAbs ≤ 16) (ha : a < R ∨ (a = R ∧ b = 0)) (y x : Nat) : -40 ≤ mnF G A B X C a b y x ∧ mnF G A B X C a b y x ≤ 40 := by
  unfold mnF
  have h1 : ∀ (p : Prop) [Decidable p] (i j : Nat), (p → i < R ∧ j < C) → -16 ≤ (if p then G i j else 0) ∧ (if p then G i j else 0) ≤ 16 := fun p _ i j h => by
    by_cases hp : p
    · rw [if_pos hp]; have := hG i j (h hp).1 (h hp).2; omega
    · rw [if_neg hp]; omega
  have p1 := h1 (A ≤ y ∧ x < C ∧ (y < A + a ∨ (y = A + a ∧ x < b))) (y - A) x (by omega)
  have p2 := h1 (B ≤ y ∧ X ≤ x ∧ x < X + C ∧ (y < B + a ∨ (y = B + a ∧ x < X + b))) (y - B) (x - X) (by omega)
  omega
theorem mnF_minus (g : Grid) {dx dy : Int} (hd : 0 ≤ dx) (y x : Nat) : mnF g.f (dnN dy) (upN dy) dx.toNat g.C g.R 0 y x = (g.minus (dx, dy)).f y x := by
  have hA : ((dnN dy : Nat) : Int) = down dy := by unfold dnN down; split <;> omega
  have hB : ((upN dy : Nat) : Int) = down dy + dy := by unfold upN down; split <;> omega
  have hX : ((dx.toNat : Nat) : Int) = dx := by omega
  show mnF g.f (dnN dy) (upN dy) dx.toNat g.C g.R 0 y x = g.at ((y : Int) - down dy) x - g.at ((y : Int) - down dy - dy) ((x : Int) - dx)
  generalize dnN dy = A at hA
  generalize upN dy = B at hB
  generalize dx.toNat = X at hX
  unfold mnF
  congr 1
  · by_cases h : A ≤ y ∧ x < g.C ∧ (y < A + g.R ∨ (y = A + g.R ∧ x < 0))
    · rw [if_pos h, at_in (by omega), show ((y : Int) - down dy).toNat = y - A by omega, show ((x : Int)).toNat = x by omega]
    · rw [if_neg h, at_out (by omega)]
  · by_cases h : B ≤ y ∧ X ≤ x ∧ x < X + g.C ∧ (y < B + g.R ∨ (y = B + g.R ∧ x < X + 0))
    · rw [if_pos h, at_in (by omega), show ((y : Int) - down dy - dy).toNat = y - B by omega, show ((x : Int) - dx).toNat = x - X by omega]
    · rw [if_neg h, at_out (by omega)]

set_option maxHeartbeats 4000000 in
theorem l11Minus_any (v : Value) (R C : Nat) (G : Nat → Nat → Int) (dx dy : Int) (w : World) (hin : InMat w v (mkM R C G)) (hn : Near dx dy) (hR : 1 ≤ R) (hC : 1 ≤ C) (hR5 : R + (tallD (dx, dy)).toNat ≤ 5) (hC5 : C + dx.toNat ≤ 5) (hG : ∀ y x, y < R → x < C → (G y x).natAbs ≤ 16) :
    Calls Try.prog 75 #[v, .agg #[.int .i64 dx, .int .i64 dy]] w (MatRes (mkM (R + (tallD (dx, dy)).toNat) (C + dx.toNat) (mnF G (dnN dy) (upN dy) dx.toNat C R 0)) w) := by
  obtain ⟨g, o, cap, rfl, hg, hrow⟩ := inMat_img hin (by omega) (by omega)
  have HROW := hide hrow
  obtain ⟨g1, o1, k1, hcr, -, -⟩ := hrow 0 (by omega)
  rw [Nat.add_zero] at hcr
  have HCR := hide hcr
  have hR0 : 0 < R := by omega
  obtain ⟨n1, n2, n3, n4⟩ := hn
  obtain ⟨A, hA⟩ : ∃ A, A = dnN dy := ⟨_, rfl⟩
  obtain ⟨B, hB⟩ : ∃ B, B = upN dy := ⟨_, rfl⟩
  obtain ⟨X0, hX⟩ : ∃ X, X = dx.toNat := ⟨_, rfl⟩
  obtain ⟨D, hU⟩ : ∃ U, U = (tallD (dx, dy)).toNat := ⟨_, rfl⟩
  have hXI : dx = (X0 : Int) := by omega
  have HD : Hid ((if dy < -dy then -dy else dy) = (D : Int)) := hide (by rw [hU]; have := tallD_max (dx, dy); simp only at this; split <;> omega)
  have hT := tallD_max (dx, dy)
  simp only at hT
  have HAB : Hid ((dy < 0 → (A : Int) = -dy ∧ B = 0 ∧ D = A) ∧ (¬ dy < 0 → A = 0 ∧ (B : Int) = dy ∧ D = B)) := hide (by rw [hA, hB, hU, dnN, upN]; omega)
  have l1 : IntKind.i64.wrap (-dy) = -dy := IntWalk.i64_in _ (by omega)
  rw [← hU] at hR5
  rw [← hX] at hC5
  rw [← hA, ← hB, ← hU, ← hX]
  obtain ⟨R', hR'⟩ : ∃ R', R' = R + D := ⟨_, rfl⟩
  obtain ⟨C', hC'⟩ : ∃ C', C' = C + X0 := ⟨_, rfl⟩
  rw [← hR'] at hR5 ⊢
  rw [← hC'] at hC5 ⊢
  have hRU : (R : Int) + (D : Int) = (R' : Int) := by omega
  have hCX : (C : Int) + (X0 : Int) = (C' : Int) := by omega
  have hRR : R + D ≤ R' := by omega
  have hCC : C + X0 ≤ C' := by omega
  have lR : IntKind.i64.wrap (R' : Int) = R' := IntWalk.i64_in _ (by omega)
  have lC : IntKind.i64.wrap (C' : Int) = C' := IntWalk.i64_in _ (by omega)
  have HB0 := hide ((Below.refl w.heap.size w).alloc (Nat.le_refl _) (.cells #[.int .i64 dx, .int .i64 dy] 36))
  have HD0 := hide (show DirAt (w.alloc (.cells #[.int .i64 dx, .int .i64 dy] 36)) w.heap.size dx dy from heap_alloc_new w _)
  have HGS := hide hG
  have HZ := hide (mnF_zero G A B X0 C)
  have HRW := hide (mnF_row G A B X0 C)
  subst hXI
  clear hin hrow hcr hA hB hX hU hT hR' hC' hG
  go_enter Try.func75, Try.ntmps75
  by_cases hdy : dy < -dy
  · have hd0 : dy < 0 := by omega
    obtain ⟨hA, hB, hDA⟩ := HAB.out.1 hd0
    have hRm : (R : Int) + -dy = (R' : Int) := by omega
    clear hA hB hDA
    go_upto_region 2 with fail
    obtain ⟨fs, hfs⟩ : ∃ fs : List FactP, fs = [(isV (.slice (some ⟨g, o, none⟩) R cap)), (isV (.int .i64 ((R : Int)))), (isV (.int .i64 (-dy))), (isV (.int .i64 ((R' : Int)))), (isV (.slice (some ⟨g, o, none⟩) R cap)), (isV (.pointer (some ⟨g, o, none⟩))), (isV (.slice (some ⟨g1, o1, none⟩) C k1)), (isV (.int .i64 ((C : Int)))), (isV (.pointer (some ⟨w.heap.size, 0, none⟩))), (isV (.int .i64 ((X0 : Int)))), (isV (.int .i64 ((C' : Int)))), (fun u w2 => OwnMat w2 (w.heap.size + 1) w2.heap.size u (mkM R' C' zeroM))] := ⟨_, rfl⟩
    have hst : ∀ f ∈ fs, StableP f := by
      rw [hfs]; intro f hf
      simp only [List.mem_cons, List.not_mem_nil, or_false] at hf
      rcases hf with rfl | rfl | rfl | rfl | rfl | rfl | rfl | rfl | rfl | rfl | rfl | rfl <;> first | exact stable_v _ | exact fun u w2 w3 hb h => ownMat_mono (ownMat_below h hb) (Nat.le_refl _) hb.size
    subst hfs
    refine wp_region_g (S := fun w2 => DirAt w2 w.heap.size X0 dy ∧ Below w.heap.size w w2) [(isV (.slice (some ⟨g, o, none⟩) R cap)), (isV (.int .i64 ((R : Int)))), (isV (.int .i64 (-dy))), (isV (.int .i64 ((R' : Int)))), (isV (.slice (some ⟨g, o, none⟩) R cap)), (isV (.pointer (some ⟨g, o, none⟩))), (isV (.slice (some ⟨g1, o1, none⟩) C k1)), (isV (.int .i64 ((C : Int)))), (isV (.pointer (some ⟨w.heap.size, 0, none⟩))), (isV (.int .i64 ((X0 : Int)))), (isV (.int .i64 ((C' : Int)))), (fun u w2 => OwnMat w2 (w.heap.size + 1) w2.heap.size u (mkM R' C' zeroM))] [(0, .slice (some ⟨g, o, none⟩) R cap), (3, .pointer (some ⟨w.heap.size, 0, none⟩)), (5, .int .i64 (-dy))] _ _ 12 (by kernel_rfl) rfl rfl (by kernel_rfl) (by kernel_rfl) rfl (by kernel_rfl) ?base ⟨HD0.out, below_drew HB0.out⟩ ?ob rfl ?fin
    case base =>
      intro t v ht
      simp only [List.lookup_cons, List.lookup_nil] at ht
      repeat' split at ht
      all_goals first | (cases ht; done) | (obtain rfl := Option.some.inj ht; rename_i hh; obtain rfl := eq_of_beq hh; rfl)
    case ob =>
      exact ⟨obg_of rfl (obt_move (.slice (some ⟨g, o, none⟩) R cap) rfl rfl rfl (srt_b 0 rfl)),
        obg_of rfl (obt_one (.int .i64 ((R : Int))) rfl rfl (srt_j 0 rfl (by kernel_rfl) rfl) (fun ρ w2 hS hx => by go_simp)),
        obg_of rfl (obt_move (.int .i64 (-dy)) rfl rfl rfl (srt_b 5 rfl)),
        obg_of rfl (obt_two (.int .i64 ((R' : Int))) rfl rfl (srt_j 1 rfl (by kernel_rfl) rfl) (srt_j 2 rfl (by kernel_rfl) rfl) (fun ρ w2 hS hx hy => by go_simp)),
        obg_of rfl (obt_move (.slice (some ⟨g, o, none⟩) R cap) rfl rfl rfl (srt_b 0 rfl)),
        obg_of rfl (obt_two (.pointer (some ⟨g, o, none⟩)) rfl rfl (srt_j 4 rfl (by kernel_rfl) rfl) (srt_c (v := .int .i64 0)) (fun ρ w2 hS hx hy => by go_simp)),
        obg_of rfl (obt_one (.slice (some ⟨g1, o1, none⟩) C k1) rfl rfl (srt_j 5 rfl (by kernel_rfl) rfl) (fun ρ w2 hS hx => by have hc := below_cell hS.2 hg HCR.out; go_simp)),
        obg_of rfl (obt_one (.int .i64 ((C : Int))) rfl rfl (srt_j 6 rfl (by kernel_rfl) rfl) (fun ρ w2 hS hx => by go_simp)),
        obg_of rfl (obt_one (.pointer (some ⟨w.heap.size, 0, none⟩)) rfl rfl (srt_b 3 rfl) (fun ρ w2 hS hx => exec_field0 rfl hx)),
        obg_of rfl (obt_one (.int .i64 ((X0 : Int))) rfl rfl (srt_j 8 rfl (by kernel_rfl) rfl) (fun ρ w2 hS hx => exec_loadX rfl hx hS.1)),
        obg_of rfl (obt_two (.int .i64 ((C' : Int))) rfl rfl (srt_j 7 rfl (by kernel_rfl) rfl) (srt_j 9 rfl (by kernel_rfl) rfl) (fun ρ w2 hS hx hy => by go_simp)),
        obg_of rfl (obt_call hst [.int .i64 ((R' : Int)), .int .i64 ((C' : Int))] rfl Try.func99 (by kernel_rfl) (by kernel_rfl) rfl ⟨(srt_j 3 rfl (by kernel_rfl) rfl), (srt_j 10 rfl (by kernel_rfl) rfl), trivial⟩ (fun w2 hS => (l02Empty_any R' C' w2 hR5 hC5).mono fun e w3 ⟨u, he, ho, hh⟩ => ⟨_, he, ⟨dirAt_below hS.1 hh, hS.2.trans (hh.mono hS.2.size)⟩, hh, ownMat_mono ho (by have := (Array.getElem?_eq_some_iff.1 hS.1).1; omega) (Nat.le_refl _)⟩)),
        trivial⟩
    case fin =>
      intro a' w' h1 h2 h3 hS h4 K hK
      have ha := frame_ov rfl h1 h2 h3 [(19, .slice (some ⟨g, o, none⟩) R cap), (20, .int .i64 ((R : Int))), (21, .int .i64 (-dy)), (22, .int .i64 ((R' : Int))), (23, .slice (some ⟨g, o, none⟩) R cap), (24, .pointer (some ⟨g, o, none⟩)), (25, .slice (some ⟨g1, o1, none⟩) C k1), (26, .int .i64 ((C : Int))), (27, .pointer (some ⟨w.heap.size, 0, none⟩)), (28, .int .i64 ((X0 : Int))), (29, .int .i64 ((C' : Int))), (30, a'.tmps.getD 30 undef), (6, a'.tmps.getD 6 undef)] (by kernel_rfl) ⟨h4 0 19 rfl (by decide), h4 1 20 rfl (by decide), h4 2 21 rfl (by decide), h4 3 22 rfl (by decide), h4 4 23 rfl (by decide), h4 5 24 rfl (by decide), h4 6 25 rfl (by decide), h4 7 26 rfl (by decide), h4 8 27 rfl (by decide), h4 9 28 rfl (by decide), h4 10 29 rfl (by decide), rfl, rfl, trivial⟩
      dsimp only [ov, List.lookup, Nat.reduceBEq, Nat.reduceAdd] at ha
      have ho : OwnMat w' (w.heap.size + 1) w'.heap.size (a'.tmps.getD 30 undef) (mkM R' C' zeroM) := h4 11 30 rfl (by decide)
      obtain ⟨x, hx⟩ : ∃ x, x = a'.tmps.getD 30 undef := ⟨_, rfl⟩
      have HO := hide (show OwnMat w' (w.heap.size + 1) w'.heap.size x (mkM R' C' zeroM) by rw [hx]; exact ho)
      refine tail_assign rfl (show a'.eval (.tmp 30) = x from hx.symm) ?_ K hK
      show Exit.then _ _ Exit.normal (Act.put a' (some 6) x) _
      have HB1 := hide hS.2; have HD1 := hide hS.1
      rw [ha]
      generalize a'.tmps.getD 30 undef = u30
      generalize a'.tmps.getD 6 undef = u6
      clear ha h1 h2 h3 h4 hst hK hS ho hx
      obtain ⟨gx, xc, rfl⟩ : ∃ gx xc, x = .slice (some ⟨gx, 0, none⟩) R' xc := by
        obtain ⟨vs, ho, -⟩ := HO.out
        rcases ho.2 with ⟨e, h0⟩ | ⟨g', cap', cur, e, _⟩
        · rw [mkM_len] at h0; omega
        · rw [mkM_len] at e; exact ⟨_, _, e⟩
      have HNB := hide (show w.heap.size < w'.heap.size from (Array.getElem?_eq_some_iff.1 HD1.out).1)
      obtain ⟨hi, hhi⟩ : ∃ hi, hi = w'.heap.size := ⟨_, rfl⟩
      have HHI0 := hide (Nat.le_of_eq hhi)
      rw [← hhi] at HO
      clear hhi
      go_wp2
      go_loopw [33] (fun i wr => ∃ a : Nat, a ≤ R ∧ i = .int .i64 a ∧ OwnMat wr (w.heap.size + 1) hi (.slice (some ⟨gx, 0, none⟩) R' xc) (mkM R' C' (mnF G A B X0 C a 0)) ∧ DirAt wr w.heap.size X0 dy ∧ Below w.heap.size w wr ∧ hi ≤ wr.heap.size) (fun i _ => R - (intOf i).toNat)
      case atStart => exact ⟨0, Nat.zero_le _, rfl, by rw [HZ.out]; exact HO.out, HD1.out, HB1.out, HHI0.out⟩
      case round =>
        clear HO HD1 HB1 HHI0
        obtain ⟨wo, rfl⟩ : ∃ wo, wo = wr := ⟨_, rfl⟩
        obtain ⟨a, ha, rfl, ho, hd, hb, hh⟩ := hrel
        have HO1 := hide ho; have HD1 := hide hd; have HB1 := hide hb; have HH1 := hide hh
        clear ho hd hb hh
        by_cases hla : a < R
        · have hlaI : (a : Int) < R := by omega
          obtain ⟨g', o', c', hcr, hg', hcell⟩ := HROW.out a hla
          have hcr := below_cell HB1.out hg hcr
          have HCELL := hide hcell
          clear hcell
          go_wp2
          clear hcr
          go_loopw [40] (fun i wr => ∃ b : Nat, b ≤ C ∧ i = .int .i64 b ∧ OwnMat wr (w.heap.size + 1) hi (.slice (some ⟨gx, 0, none⟩) R' xc) (mkM R' C' (mnF G A B X0 C a b)) ∧ DirAt wr w.heap.size X0 dy ∧ Below w.heap.size w wr ∧ hi ≤ wr.heap.size) (fun i _ => C - (intOf i).toNat)
          case atStart => exact ⟨0, Nat.zero_le _, rfl, HO1.out, HD1.out, HB1.out, HH1.out⟩
          case round =>
            clear HO1 HD1 HB1 HH1
            obtain ⟨wi, rfl⟩ : ∃ wi, wi = wr := ⟨_, rfl⟩
            obtain ⟨b, hb, rfl, ho, hd, hbw, hh⟩ := hrel
            have HO2 := hide ho; have HD2 := hide hd; have HB2 := hide hbw; have HHI := hide hh
            clear ho hbw hh
            by_cases hlb : b < C
            · have hlbI : (b : Int) < C := by omega
              have hbC := hlb
              have hcx := below_cell HB2.out hg' (HCELL.out b hlb)
              obtain ⟨d0, d1⟩ := drC_at hd
              simp only at d0 d1
              obtain ⟨z, hz⟩ : ∃ z, z = G a b := ⟨_, rfl⟩
              rw [← hz] at hcx
              have hzb := HGS.out a b hla hlb
              rw [← hz] at hzb
              obtain ⟨X, hX⟩ : ∃ X, X = X0 + b := ⟨_, rfl⟩
              obtain ⟨P, hP⟩ : ∃ P, P = mnF G A B X0 C a b := ⟨_, rfl⟩
              have HP := hide hP
              have HPB : Hid (∀ y x, -40 ≤ P y x ∧ P y x ≤ 40) := hide (by rw [hP]; exact mnF_small HGS.out (.inl hla))
              rw [← hP] at HO2
              obtain ⟨FY, hFY⟩ : ∃ FY, FY = A + a := ⟨_, rfl⟩
              have hab := HAB.out.1 hd0
              have hFI : -dy + (a : Int) = (FY : Int) := by omega
              have hFI2 : (a : Int) + -dy = (FY : Int) := by omega
              have HFT : Hid (FY = A + a ∧ a = B + a ∧ X = X0 + b) := hide (by omega)
              have lw1 : IntKind.i64.wrap ((a : Int) + dy) = (a : Int) + dy := IntWalk.i64_in _ (by omega)
              have lw2 : IntKind.i64.wrap (FY : Int) = FY := IntWalk.i64_in _ (by omega)
              have hXI : (b : Int) + (X0 : Int) = (X : Int) := by omega
              have hXC : (X : Int) < C' := by omega
              have lX : IntKind.i64.wrap (X : Int) = X := IntWalk.i64_in _ (by omega)
              have hbC' : (b : Int) < C' := by omega
              have hfI : ((FY : Nat) : Int) < R' := by omega
              have htI : ((a : Nat) : Int) < R' := by omega
              clear hd hP hab hX hFY
              obtain ⟨gr, rc, hcrow, hcl, hfr, hgl, hgh, hset⟩ := ownMat_cell HO2.out FY b (by omega) (by omega)
              obtain ⟨c, hc⟩ : ∃ c, c = P FY b := ⟨_, rfl⟩
              rw [← hc] at hcl
              obtain ⟨sv, hsv⟩ : ∃ sv, sv = c + z := ⟨_, rfl⟩
              have HSET := hide hset
              obtain ⟨c2, hc2⟩ : ∃ c2, c2 = putF P FY b sv a X := ⟨_, rfl⟩
              obtain ⟨sv2, hsv2⟩ : ∃ sv2, sv2 = c2 - z := ⟨_, rfl⟩
              have hcb : -40 ≤ c ∧ c ≤ 40 := by rw [hc]; exact HPB.out _ _
              have hc2b : -80 ≤ c2 ∧ c2 ≤ 80 := by
                have := HPB.out a X
                rw [hc2]; unfold putF; split <;> omega
              have HSTEP : Hid (putF (putF P FY b sv) a X sv2 = mnF G A B X0 C a (b + 1)) := hide (by
                rw [hsv2, hc2, hsv, hc, HP.out, hz]
                exact mnF_step G A B X0 C a b hbC FY a X HFT.out.1 HFT.out.2.1 HFT.out.2.2)
              have l2 : IntKind.i64.wrap (c + z) = sv := by rw [hsv]; exact IntWalk.i64_in _ (by omega)
              have l3 : IntKind.i64.wrap (c2 - z) = sv2 := by rw [hsv2]; exact IntWalk.i64_in _ (by omega)
              have HC2 := hide hc2
              clear hset hc hsv hsv2 hz hc2
              go_upto_region 14 with fail
              obtain ⟨fs, hfs⟩ : ∃ fs : List FactP, fs = [(isV (.slice (some ⟨gx, 0, none⟩) R' xc)), (isV (.int .i64 ((FY : Int)))), (isV (.pointer (some ⟨gx, FY, none⟩))), (isV (.slice (some ⟨gr, 0, none⟩) C' rc)), (isV (.int .i64 ((b : Int)))), (isV (.slice (some ⟨gx, 0, none⟩) R' xc)), (isV (.int .i64 ((FY : Int)))), (isV (.pointer (some ⟨gx, FY, none⟩))), (isV (.slice (some ⟨gr, 0, none⟩) C' rc)), (isV (.int .i64 ((b : Int)))), (isV (.pointer (some ⟨gr, b, none⟩))), (isV (.int .i64 (c))), (isV (.int .i64 (z))), (isV (.int .i64 (sv))), (isV (.pointer (some ⟨gr, b, none⟩)))] := ⟨_, rfl⟩
              have hst : ∀ f ∈ fs, StableP f := by
                rw [hfs]; intro f hf
                simp only [List.mem_cons, List.not_mem_nil, or_false] at hf
                rcases hf with rfl | rfl | rfl | rfl | rfl | rfl | rfl | rfl | rfl | rfl | rfl | rfl | rfl | rfl | rfl <;> exact stable_v _
              subst hfs
              refine wp_region_g (S := fun w2 => w2 = wi.drew) [(isV (.slice (some ⟨gx, 0, none⟩) R' xc)), (isV (.int .i64 ((FY : Int)))), (isV (.pointer (some ⟨gx, FY, none⟩))), (isV (.slice (some ⟨gr, 0, none⟩) C' rc)), (isV (.int .i64 ((b : Int)))), (isV (.slice (some ⟨gx, 0, none⟩) R' xc)), (isV (.int .i64 ((FY : Int)))), (isV (.pointer (some ⟨gx, FY, none⟩))), (isV (.slice (some ⟨gr, 0, none⟩) C' rc)), (isV (.int .i64 ((b : Int)))), (isV (.pointer (some ⟨gr, b, none⟩))), (isV (.int .i64 (c))), (isV (.int .i64 (z))), (isV (.int .i64 (sv))), (isV (.pointer (some ⟨gr, b, none⟩)))] [(6, .slice (some ⟨gx, 0, none⟩) R' xc), (9, .int .i64 ((b : Int))), (10, .int .i64 (z)), (11, .int .i64 ((FY : Int)))] _ _ 15 (by kernel_rfl) rfl rfl (by kernel_rfl) (by kernel_rfl) rfl (by kernel_rfl) ?base rfl ?ob rfl ?fin
              case base =>
                intro t v ht
                simp only [List.lookup_cons, List.lookup_nil] at ht
                repeat' split at ht
                all_goals first | (cases ht; done) | (obtain rfl := Option.some.inj ht; rename_i hh; obtain rfl := eq_of_beq hh; rfl)
              case ob =>
                exact ⟨obg_of rfl (obt_move (.slice (some ⟨gx, 0, none⟩) R' xc) rfl rfl rfl (srt_b 6 rfl)),
                  obg_of rfl (obt_move (.int .i64 ((FY : Int))) rfl rfl rfl (srt_b 11 rfl)),
                  obg_of rfl (obt_two (.pointer (some ⟨gx, FY, none⟩)) rfl rfl (srt_j 0 rfl (by kernel_rfl) rfl) (srt_j 1 rfl (by kernel_rfl) rfl) (fun ρ w2 hS hx hy => by subst hS; go_simp)),
                  obg_of rfl (obt_one (.slice (some ⟨gr, 0, none⟩) C' rc) rfl rfl (srt_j 2 rfl (by kernel_rfl) rfl) (fun ρ w2 hS hx => by subst hS; go_simp)),
                  obg_of rfl (obt_move (.int .i64 ((b : Int))) rfl rfl rfl (srt_b 9 rfl)),
                  obg_of rfl (obt_move (.slice (some ⟨gx, 0, none⟩) R' xc) rfl rfl rfl (srt_b 6 rfl)),
                  obg_of rfl (obt_move (.int .i64 ((FY : Int))) rfl rfl rfl (srt_b 11 rfl)),
                  obg_of rfl (obt_two (.pointer (some ⟨gx, FY, none⟩)) rfl rfl (srt_j 5 rfl (by kernel_rfl) rfl) (srt_j 6 rfl (by kernel_rfl) rfl) (fun ρ w2 hS hx hy => by subst hS; go_simp)),
                  obg_of rfl (obt_one (.slice (some ⟨gr, 0, none⟩) C' rc) rfl rfl (srt_j 7 rfl (by kernel_rfl) rfl) (fun ρ w2 hS hx => by subst hS; go_simp)),
                  obg_of rfl (obt_move (.int .i64 ((b : Int))) rfl rfl rfl (srt_b 9 rfl)),
                  obg_of rfl (obt_two (.pointer (some ⟨gr, b, none⟩)) rfl rfl (srt_j 8 rfl (by kernel_rfl) rfl) (srt_j 9 rfl (by kernel_rfl) rfl) (fun ρ w2 hS hx hy => by subst hS; go_simp)),
                  obg_of rfl (obt_one (.int .i64 (c)) rfl rfl (srt_j 10 rfl (by kernel_rfl) rfl) (fun ρ w2 hS hx => by subst hS; go_simp)),
                  obg_of rfl (obt_move (.int .i64 (z)) rfl rfl rfl (srt_b 10 rfl)),
                  obg_of rfl (obt_two (.int .i64 (sv)) rfl rfl (srt_j 11 rfl (by kernel_rfl) rfl) (srt_j 12 rfl (by kernel_rfl) rfl) (fun ρ w2 hS hx hy => by subst hS; go_simp)),
                  obg_of rfl (obt_two (.pointer (some ⟨gr, b, none⟩)) rfl rfl (srt_j 3 rfl (by kernel_rfl) rfl) (srt_j 4 rfl (by kernel_rfl) rfl) (fun ρ w2 hS hx hy => by subst hS; go_simp)),
                  trivial⟩
              case fin =>
                intro a' w' h1 h2 h3 hS h4 K hK
                have ha := frame_ov rfl h1 h2 h3 [(57, .slice (some ⟨gx, 0, none⟩) R' xc), (58, .int .i64 ((FY : Int))), (59, .pointer (some ⟨gx, FY, none⟩)), (60, .slice (some ⟨gr, 0, none⟩) C' rc), (61, .int .i64 ((b : Int))), (62, .slice (some ⟨gx, 0, none⟩) R' xc), (63, .int .i64 ((FY : Int))), (64, .pointer (some ⟨gx, FY, none⟩)), (65, .slice (some ⟨gr, 0, none⟩) C' rc), (66, .int .i64 ((b : Int))), (67, .pointer (some ⟨gr, b, none⟩)), (68, .int .i64 (c)), (69, .int .i64 (z)), (70, .int .i64 (sv)), (71, .pointer (some ⟨gr, b, none⟩))] (by kernel_rfl) ⟨h4 0 57 rfl (by decide), h4 1 58 rfl (by decide), h4 2 59 rfl (by decide), h4 3 60 rfl (by decide), h4 4 61 rfl (by decide), h4 5 62 rfl (by decide), h4 6 63 rfl (by decide), h4 7 64 rfl (by decide), h4 8 65 rfl (by decide), h4 9 66 rfl (by decide), h4 10 67 rfl (by decide), h4 11 68 rfl (by decide), h4 12 69 rfl (by decide), h4 13 70 rfl (by decide), h4 14 71 rfl (by decide), trivial⟩
                dsimp only [ov, List.lookup, Nat.reduceBEq, Nat.reduceAdd] at ha
                have v71 : a'.tmps.getD 71 undef = .pointer (some ⟨gr, b, none⟩) := h4 14 71 rfl (by decide)
                have v70 : a'.tmps.getD 70 undef = .int .i64 (sv) := h4 13 70 rfl (by decide)
                subst hS
                refine run_skip (exec_storeIntG (u := c) rfl v71 v70 hcl hfr) (hK undef _ ?_)
                show Exit.then _ _ Exit.normal a' _
                have E1 : Hid (OwnMat (wi.drew.setCell ⟨gr, b, none⟩ (.int .i64 sv)) (w.heap.size + 1) hi (.slice (some ⟨gx, 0, none⟩) R' xc) (mkM R' C' (putF P FY b sv))) := hide (HSET.out sv)
                have E2 : Hid (DirAt (wi.drew.setCell ⟨gr, b, none⟩ (.int .i64 sv)) w.heap.size X0 dy) := hide (dirAt_cell HD2.out _ _ (by simp; omega))
                have E3 : Hid (Below w.heap.size w (wi.drew.setCell ⟨gr, b, none⟩ (.int .i64 sv))) := hide ((below_drew HB2.out).setCell (by simp only; omega) _)
                have E4 : Hid (hi ≤ (wi.drew.setCell ⟨gr, b, none⟩ (.int .i64 sv)).heap.size) := hide (by simp; exact HHI.out)
                clear v70 v71
                generalize wi.drew.setCell ⟨gr, b, none⟩ (.int .i64 sv) = w9 at E1 E2 E3 E4 ⊢
                rw [ha]
                clear ha h1 h2 h3 h4 hst hK
                obtain ⟨gr2, rc2, hcrow2, hcl2, hfr2, hgl2, hgh2, hset2⟩ := ownMat_cell E1.out a X (by omega) (by omega)
                rw [← HC2.out] at hcl2
                have HSET2 := hide hset2
                obtain ⟨d0, d1⟩ := drC_at E2.out
                simp only at d0 d1
                clear hset2
                go_upto_region 15 with fail
                obtain ⟨fs, hfs⟩ : ∃ fs : List FactP, fs = [(isV (.slice (some ⟨gx, 0, none⟩) R' xc)), (isV (.int .i64 ((a : Int)))), (isV (.pointer (some ⟨gx, a, none⟩))), (isV (.slice (some ⟨gr2, 0, none⟩) C' rc2)), (isV (.int .i64 ((b : Int)))), (isV (.pointer (some ⟨w.heap.size, 0, none⟩))), (isV (.int .i64 ((X0 : Int)))), (isV (.int .i64 ((X : Int)))), (isV (.slice (some ⟨gx, 0, none⟩) R' xc)), (isV (.int .i64 ((a : Int)))), (isV (.pointer (some ⟨gx, a, none⟩))), (isV (.slice (some ⟨gr2, 0, none⟩) C' rc2)), (isV (.int .i64 ((b : Int)))), (isV (.pointer (some ⟨w.heap.size, 0, none⟩))), (isV (.int .i64 ((X0 : Int)))), (isV (.int .i64 ((X : Int)))), (isV (.pointer (some ⟨gr2, X, none⟩))), (isV (.int .i64 (c2))), (isV (.int .i64 (z))), (isV (.int .i64 (sv2))), (isV (.pointer (some ⟨gr2, X, none⟩)))] := ⟨_, rfl⟩
                have hst : ∀ f ∈ fs, StableP f := by
                  rw [hfs]; intro f hf
                  simp only [List.mem_cons, List.not_mem_nil, or_false] at hf
                  rcases hf with rfl | rfl | rfl | rfl | rfl | rfl | rfl | rfl | rfl | rfl | rfl | rfl | rfl | rfl | rfl | rfl | rfl | rfl | rfl | rfl | rfl <;> exact stable_v _
                subst hfs
                refine wp_region_g (S := fun w2 => w2 = w9.drew) [(isV (.slice (some ⟨gx, 0, none⟩) R' xc)), (isV (.int .i64 ((a : Int)))), (isV (.pointer (some ⟨gx, a, none⟩))), (isV (.slice (some ⟨gr2, 0, none⟩) C' rc2)), (isV (.int .i64 ((b : Int)))), (isV (.pointer (some ⟨w.heap.size, 0, none⟩))), (isV (.int .i64 ((X0 : Int)))), (isV (.int .i64 ((X : Int)))), (isV (.slice (some ⟨gx, 0, none⟩) R' xc)), (isV (.int .i64 ((a : Int)))), (isV (.pointer (some ⟨gx, a, none⟩))), (isV (.slice (some ⟨gr2, 0, none⟩) C' rc2)), (isV (.int .i64 ((b : Int)))), (isV (.pointer (some ⟨w.heap.size, 0, none⟩))), (isV (.int .i64 ((X0 : Int)))), (isV (.int .i64 ((X : Int)))), (isV (.pointer (some ⟨gr2, X, none⟩))), (isV (.int .i64 (c2))), (isV (.int .i64 (z))), (isV (.int .i64 (sv2))), (isV (.pointer (some ⟨gr2, X, none⟩)))] [(3, .pointer (some ⟨w.heap.size, 0, none⟩)), (6, .slice (some ⟨gx, 0, none⟩) R' xc), (9, .int .i64 ((b : Int))), (10, .int .i64 (z)), (12, .int .i64 ((a : Int)))] _ _ 21 (by kernel_rfl) rfl rfl (by kernel_rfl) (by kernel_rfl) rfl (by kernel_rfl) ?base rfl ?ob rfl ?fin
                case base =>
                  intro t v ht
                  simp only [List.lookup_cons, List.lookup_nil] at ht
                  repeat' split at ht
                  all_goals first | (cases ht; done) | (obtain rfl := Option.some.inj ht; rename_i hh; obtain rfl := eq_of_beq hh; rfl)
                case ob =>
                  exact ⟨obg_of rfl (obt_move (.slice (some ⟨gx, 0, none⟩) R' xc) rfl rfl rfl (srt_b 6 rfl)),
                    obg_of rfl (obt_move (.int .i64 ((a : Int))) rfl rfl rfl (srt_b 12 rfl)),
                    obg_of rfl (obt_two (.pointer (some ⟨gx, a, none⟩)) rfl rfl (srt_j 0 rfl (by kernel_rfl) rfl) (srt_j 1 rfl (by kernel_rfl) rfl) (fun ρ w2 hS hx hy => by subst hS; go_simp)),
                    obg_of rfl (obt_one (.slice (some ⟨gr2, 0, none⟩) C' rc2) rfl rfl (srt_j 2 rfl (by kernel_rfl) rfl) (fun ρ w2 hS hx => by subst hS; go_simp)),
                    obg_of rfl (obt_move (.int .i64 ((b : Int))) rfl rfl rfl (srt_b 9 rfl)),
                    obg_of rfl (obt_one (.pointer (some ⟨w.heap.size, 0, none⟩)) rfl rfl (srt_b 3 rfl) (fun ρ w2 hS hx => exec_field0 rfl hx)),
                    obg_of rfl (obt_one (.int .i64 ((X0 : Int))) rfl rfl (srt_j 5 rfl (by kernel_rfl) rfl) (fun ρ w2 hS hx => by subst hS; go_simp)),
                    obg_of rfl (obt_two (.int .i64 ((X : Int))) rfl rfl (srt_j 4 rfl (by kernel_rfl) rfl) (srt_j 6 rfl (by kernel_rfl) rfl) (fun ρ w2 hS hx hy => by subst hS; go_simp)),
                    obg_of rfl (obt_move (.slice (some ⟨gx, 0, none⟩) R' xc) rfl rfl rfl (srt_b 6 rfl)),
                    obg_of rfl (obt_move (.int .i64 ((a : Int))) rfl rfl rfl (srt_b 12 rfl)),
                    obg_of rfl (obt_two (.pointer (some ⟨gx, a, none⟩)) rfl rfl (srt_j 8 rfl (by kernel_rfl) rfl) (srt_j 9 rfl (by kernel_rfl) rfl) (fun ρ w2 hS hx hy => by subst hS; go_simp)),
                    obg_of rfl (obt_one (.slice (some ⟨gr2, 0, none⟩) C' rc2) rfl rfl (srt_j 10 rfl (by kernel_rfl) rfl) (fun ρ w2 hS hx => by subst hS; go_simp)),
                    obg_of rfl (obt_move (.int .i64 ((b : Int))) rfl rfl rfl (srt_b 9 rfl)),
                    obg_of rfl (obt_one (.pointer (some ⟨w.heap.size, 0, none⟩)) rfl rfl (srt_b 3 rfl) (fun ρ w2 hS hx => exec_field0 rfl hx)),
                    obg_of rfl (obt_one (.int .i64 ((X0 : Int))) rfl rfl (srt_j 13 rfl (by kernel_rfl) rfl) (fun ρ w2 hS hx => by subst hS; go_simp)),
                    obg_of rfl (obt_two (.int .i64 ((X : Int))) rfl rfl (srt_j 12 rfl (by kernel_rfl) rfl) (srt_j 14 rfl (by kernel_rfl) rfl) (fun ρ w2 hS hx hy => by subst hS; go_simp)),
                    obg_of rfl (obt_two (.pointer (some ⟨gr2, X, none⟩)) rfl rfl (srt_j 11 rfl (by kernel_rfl) rfl) (srt_j 15 rfl (by kernel_rfl) rfl) (fun ρ w2 hS hx hy => by subst hS; go_simp)),
                    obg_of rfl (obt_one (.int .i64 (c2)) rfl rfl (srt_j 16 rfl (by kernel_rfl) rfl) (fun ρ w2 hS hx => by subst hS; go_simp)),
                    obg_of rfl (obt_move (.int .i64 (z)) rfl rfl rfl (srt_b 10 rfl)),
                    obg_of rfl (obt_two (.int .i64 (sv2)) rfl rfl (srt_j 17 rfl (by kernel_rfl) rfl) (srt_j 18 rfl (by kernel_rfl) rfl) (fun ρ w2 hS hx hy => by subst hS; go_simp)),
                    obg_of rfl (obt_two (.pointer (some ⟨gr2, X, none⟩)) rfl rfl (srt_j 3 rfl (by kernel_rfl) rfl) (srt_j 7 rfl (by kernel_rfl) rfl) (fun ρ w2 hS hx hy => by subst hS; go_simp)),
                    trivial⟩
                case fin =>
                  intro a' w' h1 h2 h3 hS h4 K hK
                  have ha := frame_ov rfl h1 h2 h3 [(72, .slice (some ⟨gx, 0, none⟩) R' xc), (73, .int .i64 ((a : Int))), (74, .pointer (some ⟨gx, a, none⟩)), (75, .slice (some ⟨gr2, 0, none⟩) C' rc2), (76, .int .i64 ((b : Int))), (77, .pointer (some ⟨w.heap.size, 0, none⟩)), (78, .int .i64 ((X0 : Int))), (79, .int .i64 ((X : Int))), (80, .slice (some ⟨gx, 0, none⟩) R' xc), (81, .int .i64 ((a : Int))), (82, .pointer (some ⟨gx, a, none⟩)), (83, .slice (some ⟨gr2, 0, none⟩) C' rc2), (84, .int .i64 ((b : Int))), (85, .pointer (some ⟨w.heap.size, 0, none⟩)), (86, .int .i64 ((X0 : Int))), (87, .int .i64 ((X : Int))), (88, .pointer (some ⟨gr2, X, none⟩)), (89, .int .i64 (c2)), (90, .int .i64 (z)), (91, .int .i64 (sv2)), (92, .pointer (some ⟨gr2, X, none⟩))] (by kernel_rfl) ⟨h4 0 72 rfl (by decide), h4 1 73 rfl (by decide), h4 2 74 rfl (by decide), h4 3 75 rfl (by decide), h4 4 76 rfl (by decide), h4 5 77 rfl (by decide), h4 6 78 rfl (by decide), h4 7 79 rfl (by decide), h4 8 80 rfl (by decide), h4 9 81 rfl (by decide), h4 10 82 rfl (by decide), h4 11 83 rfl (by decide), h4 12 84 rfl (by decide), h4 13 85 rfl (by decide), h4 14 86 rfl (by decide), h4 15 87 rfl (by decide), h4 16 88 rfl (by decide), h4 17 89 rfl (by decide), h4 18 90 rfl (by decide), h4 19 91 rfl (by decide), h4 20 92 rfl (by decide), trivial⟩
                  dsimp only [ov, List.lookup, Nat.reduceBEq, Nat.reduceAdd] at ha
                  have v92 : a'.tmps.getD 92 undef = .pointer (some ⟨gr2, X, none⟩) := h4 20 92 rfl (by decide)
                  have v91 : a'.tmps.getD 91 undef = .int .i64 (sv2) := h4 19 91 rfl (by decide)
                  subst hS
                  refine run_skip (exec_storeIntG (u := c2) rfl v92 v91 hcl2 hfr2) (hK undef _ ?_)
                  show Exit.inBlock _ _ Exit.normal a' _
                  have K1 : Hid (OwnMat (w9.drew.setCell ⟨gr2, X, none⟩ (.int .i64 sv2)) (w.heap.size + 1) hi (.slice (some ⟨gx, 0, none⟩) R' xc) (mkM R' C' (putF (putF P FY b sv) a X sv2))) := hide (HSET2.out sv2)
                  have K2 : Hid (DirAt (w9.drew.setCell ⟨gr2, X, none⟩ (.int .i64 sv2)) w.heap.size X0 dy) := hide (dirAt_cell E2.out _ _ (by simp; omega))
                  have K3 : Hid (Below w.heap.size w (w9.drew.setCell ⟨gr2, X, none⟩ (.int .i64 sv2))) := hide ((below_drew E3.out).setCell (by simp only; omega) _)
                  have K4 : Hid (hi ≤ (w9.drew.setCell ⟨gr2, X, none⟩ (.int .i64 sv2)).heap.size) := hide (by simp; exact E4.out)
                  clear v91 v92
                  generalize w9.drew.setCell ⟨gr2, X, none⟩ (.int .i64 sv2) = w8 at K1 K2 K3 K4 ⊢
                  rw [ha]
                  clear ha h1 h2 h3 h4 hst hK
                  go_wp2
                  go_roundw
                  case rel => exact ⟨b + 1, by omega, by go_num, by rw [← HSTEP.out]; exact K1.out, K2.out, K3.out, K4.out⟩
                  case measure => simp [intOf]; omega
            · obtain rfl : b = C := by omega
              clear hd
              go_wp2
              go_roundw
              case rel => exact ⟨a + 1, by omega, by go_num, by rw [← HRW.out a]; exact HO2.out, HD2.out, HB2.out, HHI.out⟩
              case measure => simp [intOf]; omega
        · obtain rfl : a = R := by omega
          go_wp2
          go_ret
          exact ⟨_, rfl, ownMat_mono HO1.out (Nat.le_succ _) HH1.out, HB1.out⟩
  · have hd0 : ¬ dy < 0 := by omega
    obtain ⟨hA, hB, hDB⟩ := HAB.out.2 hd0
    have hRm : (R : Int) + dy = (R' : Int) := by omega
    clear hA hB hDB
    go_upto_region 2 with fail
    obtain ⟨fs, hfs⟩ : ∃ fs : List FactP, fs = [(isV (.slice (some ⟨g, o, none⟩) R cap)), (isV (.int .i64 ((R : Int)))), (isV (.int .i64 (dy))), (isV (.int .i64 ((R' : Int)))), (isV (.slice (some ⟨g, o, none⟩) R cap)), (isV (.pointer (some ⟨g, o, none⟩))), (isV (.slice (some ⟨g1, o1, none⟩) C k1)), (isV (.int .i64 ((C : Int)))), (isV (.pointer (some ⟨w.heap.size, 0, none⟩))), (isV (.int .i64 ((X0 : Int)))), (isV (.int .i64 ((C' : Int)))), (fun u w2 => OwnMat w2 (w.heap.size + 1) w2.heap.size u (mkM R' C' zeroM))] := ⟨_, rfl⟩
    have hst : ∀ f ∈ fs, StableP f := by
      rw [hfs]; intro f hf
      simp only [List.mem_cons, List.not_mem_nil, or_false] at hf
      rcases hf with rfl | rfl | rfl | rfl | rfl | rfl | rfl | rfl | rfl | rfl | rfl | rfl <;> first | exact stable_v _ | exact fun u w2 w3 hb h => ownMat_mono (ownMat_below h hb) (Nat.le_refl _) hb.size
    subst hfs
    refine wp_region_g (S := fun w2 => DirAt w2 w.heap.size X0 dy ∧ Below w.heap.size w w2) [(isV (.slice (some ⟨g, o, none⟩) R cap)), (isV (.int .i64 ((R : Int)))), (isV (.int .i64 (dy))), (isV (.int .i64 ((R' : Int)))), (isV (.slice (some ⟨g, o, none⟩) R cap)), (isV (.pointer (some ⟨g, o, none⟩))), (isV (.slice (some ⟨g1, o1, none⟩) C k1)), (isV (.int .i64 ((C : Int)))), (isV (.pointer (some ⟨w.heap.size, 0, none⟩))), (isV (.int .i64 ((X0 : Int)))), (isV (.int .i64 ((C' : Int)))), (fun u w2 => OwnMat w2 (w.heap.size + 1) w2.heap.size u (mkM R' C' zeroM))] [(0, .slice (some ⟨g, o, none⟩) R cap), (3, .pointer (some ⟨w.heap.size, 0, none⟩)), (5, .int .i64 (dy))] _ _ 12 (by kernel_rfl) rfl rfl (by kernel_rfl) (by kernel_rfl) rfl (by kernel_rfl) ?base ⟨HD0.out, below_drew HB0.out⟩ ?ob rfl ?fin
    case base =>
      intro t v ht
      simp only [List.lookup_cons, List.lookup_nil] at ht
      repeat' split at ht
      all_goals first | (cases ht; done) | (obtain rfl := Option.some.inj ht; rename_i hh; obtain rfl := eq_of_beq hh; rfl)
    case ob =>
      exact ⟨obg_of rfl (obt_move (.slice (some ⟨g, o, none⟩) R cap) rfl rfl rfl (srt_b 0 rfl)),
        obg_of rfl (obt_one (.int .i64 ((R : Int))) rfl rfl (srt_j 0 rfl (by kernel_rfl) rfl) (fun ρ w2 hS hx => by go_simp)),
        obg_of rfl (obt_move (.int .i64 (dy)) rfl rfl rfl (srt_b 5 rfl)),
        obg_of rfl (obt_two (.int .i64 ((R' : Int))) rfl rfl (srt_j 1 rfl (by kernel_rfl) rfl) (srt_j 2 rfl (by kernel_rfl) rfl) (fun ρ w2 hS hx hy => by go_simp)),
        obg_of rfl (obt_move (.slice (some ⟨g, o, none⟩) R cap) rfl rfl rfl (srt_b 0 rfl)),
        obg_of rfl (obt_two (.pointer (some ⟨g, o, none⟩)) rfl rfl (srt_j 4 rfl (by kernel_rfl) rfl) (srt_c (v := .int .i64 0)) (fun ρ w2 hS hx hy => by go_simp)),
        obg_of rfl (obt_one (.slice (some ⟨g1, o1, none⟩) C k1) rfl rfl (srt_j 5 rfl (by kernel_rfl) rfl) (fun ρ w2 hS hx => by have hc := below_cell hS.2 hg HCR.out; go_simp)),
        obg_of rfl (obt_one (.int .i64 ((C : Int))) rfl rfl (srt_j 6 rfl (by kernel_rfl) rfl) (fun ρ w2 hS hx => by go_simp)),
        obg_of rfl (obt_one (.pointer (some ⟨w.heap.size, 0, none⟩)) rfl rfl (srt_b 3 rfl) (fun ρ w2 hS hx => exec_field0 rfl hx)),
        obg_of rfl (obt_one (.int .i64 ((X0 : Int))) rfl rfl (srt_j 8 rfl (by kernel_rfl) rfl) (fun ρ w2 hS hx => exec_loadX rfl hx hS.1)),
        obg_of rfl (obt_two (.int .i64 ((C' : Int))) rfl rfl (srt_j 7 rfl (by kernel_rfl) rfl) (srt_j 9 rfl (by kernel_rfl) rfl) (fun ρ w2 hS hx hy => by go_simp)),
        obg_of rfl (obt_call hst [.int .i64 ((R' : Int)), .int .i64 ((C' : Int))] rfl Try.func99 (by kernel_rfl) (by kernel_rfl) rfl ⟨(srt_j 3 rfl (by kernel_rfl) rfl), (srt_j 10 rfl (by kernel_rfl) rfl), trivial⟩ (fun w2 hS => (l02Empty_any R' C' w2 hR5 hC5).mono fun e w3 ⟨u, he, ho, hh⟩ => ⟨_, he, ⟨dirAt_below hS.1 hh, hS.2.trans (hh.mono hS.2.size)⟩, hh, ownMat_mono ho (by have := (Array.getElem?_eq_some_iff.1 hS.1).1; omega) (Nat.le_refl _)⟩)),
        trivial⟩
    case fin =>
      intro a' w' h1 h2 h3 hS h4 K hK
      have ha := frame_ov rfl h1 h2 h3 [(19, .slice (some ⟨g, o, none⟩) R cap), (20, .int .i64 ((R : Int))), (21, .int .i64 (dy)), (22, .int .i64 ((R' : Int))), (23, .slice (some ⟨g, o, none⟩) R cap), (24, .pointer (some ⟨g, o, none⟩)), (25, .slice (some ⟨g1, o1, none⟩) C k1), (26, .int .i64 ((C : Int))), (27, .pointer (some ⟨w.heap.size, 0, none⟩)), (28, .int .i64 ((X0 : Int))), (29, .int .i64 ((C' : Int))), (30, a'.tmps.getD 30 undef), (6, a'.tmps.getD 6 undef)] (by kernel_rfl) ⟨h4 0 19 rfl (by decide), h4 1 20 rfl (by decide), h4 2 21 rfl (by decide), h4 3 22 rfl (by decide), h4 4 23 rfl (by decide), h4 5 24 rfl (by decide), h4 6 25 rfl (by decide), h4 7 26 rfl (by decide), h4 8 27 rfl (by decide), h4 9 28 rfl (by decide), h4 10 29 rfl (by decide), rfl, rfl, trivial⟩
      dsimp only [ov, List.lookup, Nat.reduceBEq, Nat.reduceAdd] at ha
      have ho : OwnMat w' (w.heap.size + 1) w'.heap.size (a'.tmps.getD 30 undef) (mkM R' C' zeroM) := h4 11 30 rfl (by decide)
      obtain ⟨x, hx⟩ : ∃ x, x = a'.tmps.getD 30 undef := ⟨_, rfl⟩
      have HO := hide (show OwnMat w' (w.heap.size + 1) w'.heap.size x (mkM R' C' zeroM) by rw [hx]; exact ho)
      refine tail_assign rfl (show a'.eval (.tmp 30) = x from hx.symm) ?_ K hK
      show Exit.then _ _ Exit.normal (Act.put a' (some 6) x) _
      have HB1 := hide hS.2; have HD1 := hide hS.1
      rw [ha]
      generalize a'.tmps.getD 30 undef = u30
      generalize a'.tmps.getD 6 undef = u6
      clear ha h1 h2 h3 h4 hst hK hS ho hx
      obtain ⟨gx, xc, rfl⟩ : ∃ gx xc, x = .slice (some ⟨gx, 0, none⟩) R' xc := by
        obtain ⟨vs, ho, -⟩ := HO.out
        rcases ho.2 with ⟨e, h0⟩ | ⟨g', cap', cur, e, _⟩
        · rw [mkM_len] at h0; omega
        · rw [mkM_len] at e; exact ⟨_, _, e⟩
      have HNB := hide (show w.heap.size < w'.heap.size from (Array.getElem?_eq_some_iff.1 HD1.out).1)
      obtain ⟨hi, hhi⟩ : ∃ hi, hi = w'.heap.size := ⟨_, rfl⟩
      have HHI0 := hide (Nat.le_of_eq hhi)
      rw [← hhi] at HO
      clear hhi
      go_wp2
      go_loopw [33] (fun i wr => ∃ a : Nat, a ≤ R ∧ i = .int .i64 a ∧ OwnMat wr (w.heap.size + 1) hi (.slice (some ⟨gx, 0, none⟩) R' xc) (mkM R' C' (mnF G A B X0 C a 0)) ∧ DirAt wr w.heap.size X0 dy ∧ Below w.heap.size w wr ∧ hi ≤ wr.heap.size) (fun i _ => R - (intOf i).toNat)
      case atStart => exact ⟨0, Nat.zero_le _, rfl, by rw [HZ.out]; exact HO.out, HD1.out, HB1.out, HHI0.out⟩
      case round =>
        clear HO HD1 HB1 HHI0
        obtain ⟨wo, rfl⟩ : ∃ wo, wo = wr := ⟨_, rfl⟩
        obtain ⟨a, ha, rfl, ho, hd, hb, hh⟩ := hrel
        have HO1 := hide ho; have HD1 := hide hd; have HB1 := hide hb; have HH1 := hide hh
        clear ho hd hb hh
        by_cases hla : a < R
        · have hlaI : (a : Int) < R := by omega
          obtain ⟨g', o', c', hcr, hg', hcell⟩ := HROW.out a hla
          have hcr := below_cell HB1.out hg hcr
          have HCELL := hide hcell
          clear hcell
          go_wp2
          clear hcr
          go_loopw [40] (fun i wr => ∃ b : Nat, b ≤ C ∧ i = .int .i64 b ∧ OwnMat wr (w.heap.size + 1) hi (.slice (some ⟨gx, 0, none⟩) R' xc) (mkM R' C' (mnF G A B X0 C a b)) ∧ DirAt wr w.heap.size X0 dy ∧ Below w.heap.size w wr ∧ hi ≤ wr.heap.size) (fun i _ => C - (intOf i).toNat)
          case atStart => exact ⟨0, Nat.zero_le _, rfl, HO1.out, HD1.out, HB1.out, HH1.out⟩
          case round =>
            clear HO1 HD1 HB1 HH1
            obtain ⟨wi, rfl⟩ : ∃ wi, wi = wr := ⟨_, rfl⟩
            obtain ⟨b, hb, rfl, ho, hd, hbw, hh⟩ := hrel
            have HO2 := hide ho; have HD2 := hide hd; have HB2 := hide hbw; have HHI := hide hh
            clear ho hbw hh
            by_cases hlb : b < C
            · have hlbI : (b : Int) < C := by omega
              have hbC := hlb
              have hcx := below_cell HB2.out hg' (HCELL.out b hlb)
              obtain ⟨d0, d1⟩ := drC_at hd
              simp only at d0 d1
              obtain ⟨z, hz⟩ : ∃ z, z = G a b := ⟨_, rfl⟩
              rw [← hz] at hcx
              have hzb := HGS.out a b hla hlb
              rw [← hz] at hzb
              obtain ⟨X, hX⟩ : ∃ X, X = X0 + b := ⟨_, rfl⟩
              obtain ⟨P, hP⟩ : ∃ P, P = mnF G A B X0 C a b := ⟨_, rfl⟩
              have HP := hide hP
              have HPB : Hid (∀ y x, -40 ≤ P y x ∧ P y x ≤ 40) := hide (by rw [hP]; exact mnF_small HGS.out (.inl hla))
              rw [← hP] at HO2
              obtain ⟨TY, hTY⟩ : ∃ TY, TY = B + a := ⟨_, rfl⟩
              have hab := HAB.out.2 hd0
              have hFI : (a : Int) + dy = (TY : Int) := by omega
              have hFI2 : dy + (a : Int) = (TY : Int) := by omega
              have HFT : Hid (a = A + a ∧ TY = B + a ∧ X = X0 + b) := hide (by omega)
              have lw2 : IntKind.i64.wrap (TY : Int) = TY := IntWalk.i64_in _ (by omega)
              have hXI : (b : Int) + (X0 : Int) = (X : Int) := by omega
              have hXC : (X : Int) < C' := by omega
              have lX : IntKind.i64.wrap (X : Int) = X := IntWalk.i64_in _ (by omega)
              have hbC' : (b : Int) < C' := by omega
              have hfI : ((a : Nat) : Int) < R' := by omega
              have htI : ((TY : Nat) : Int) < R' := by omega
              clear hd hP hab hX hTY
              obtain ⟨gr, rc, hcrow, hcl, hfr, hgl, hgh, hset⟩ := ownMat_cell HO2.out a b (by omega) (by omega)
              obtain ⟨c, hc⟩ : ∃ c, c = P a b := ⟨_, rfl⟩
              rw [← hc] at hcl
              obtain ⟨sv, hsv⟩ : ∃ sv, sv = c + z := ⟨_, rfl⟩
              have HSET := hide hset
              obtain ⟨c2, hc2⟩ : ∃ c2, c2 = putF P a b sv TY X := ⟨_, rfl⟩
              obtain ⟨sv2, hsv2⟩ : ∃ sv2, sv2 = c2 - z := ⟨_, rfl⟩
              have hcb : -40 ≤ c ∧ c ≤ 40 := by rw [hc]; exact HPB.out _ _
              have hc2b : -80 ≤ c2 ∧ c2 ≤ 80 := by
                have := HPB.out TY X
                rw [hc2]; unfold putF; split <;> omega
              have HSTEP : Hid (putF (putF P a b sv) TY X sv2 = mnF G A B X0 C a (b + 1)) := hide (by
                rw [hsv2, hc2, hsv, hc, HP.out, hz]
                exact mnF_step G A B X0 C a b hbC a TY X HFT.out.1 HFT.out.2.1 HFT.out.2.2)
              have l2 : IntKind.i64.wrap (c + z) = sv := by rw [hsv]; exact IntWalk.i64_in _ (by omega)
              have l3 : IntKind.i64.wrap (c2 - z) = sv2 := by rw [hsv2]; exact IntWalk.i64_in _ (by omega)
              have HC2 := hide hc2
              clear hset hc hsv hsv2 hz hc2
              go_upto_region 14 with fail
              obtain ⟨fs, hfs⟩ : ∃ fs : List FactP, fs = [(isV (.slice (some ⟨gx, 0, none⟩) R' xc)), (isV (.int .i64 ((a : Int)))), (isV (.pointer (some ⟨gx, a, none⟩))), (isV (.slice (some ⟨gr, 0, none⟩) C' rc)), (isV (.int .i64 ((b : Int)))), (isV (.slice (some ⟨gx, 0, none⟩) R' xc)), (isV (.int .i64 ((a : Int)))), (isV (.pointer (some ⟨gx, a, none⟩))), (isV (.slice (some ⟨gr, 0, none⟩) C' rc)), (isV (.int .i64 ((b : Int)))), (isV (.pointer (some ⟨gr, b, none⟩))), (isV (.int .i64 (c))), (isV (.int .i64 (z))), (isV (.int .i64 (sv))), (isV (.pointer (some ⟨gr, b, none⟩)))] := ⟨_, rfl⟩
              have hst : ∀ f ∈ fs, StableP f := by
                rw [hfs]; intro f hf
                simp only [List.mem_cons, List.not_mem_nil, or_false] at hf
                rcases hf with rfl | rfl | rfl | rfl | rfl | rfl | rfl | rfl | rfl | rfl | rfl | rfl | rfl | rfl | rfl <;> exact stable_v _
              subst hfs
              refine wp_region_g (S := fun w2 => w2 = wi.drew) [(isV (.slice (some ⟨gx, 0, none⟩) R' xc)), (isV (.int .i64 ((a : Int)))), (isV (.pointer (some ⟨gx, a, none⟩))), (isV (.slice (some ⟨gr, 0, none⟩) C' rc)), (isV (.int .i64 ((b : Int)))), (isV (.slice (some ⟨gx, 0, none⟩) R' xc)), (isV (.int .i64 ((a : Int)))), (isV (.pointer (some ⟨gx, a, none⟩))), (isV (.slice (some ⟨gr, 0, none⟩) C' rc)), (isV (.int .i64 ((b : Int)))), (isV (.pointer (some ⟨gr, b, none⟩))), (isV (.int .i64 (c))), (isV (.int .i64 (z))), (isV (.int .i64 (sv))), (isV (.pointer (some ⟨gr, b, none⟩)))] [(6, .slice (some ⟨gx, 0, none⟩) R' xc), (9, .int .i64 ((b : Int))), (10, .int .i64 (z)), (11, .int .i64 ((a : Int)))] _ _ 15 (by kernel_rfl) rfl rfl (by kernel_rfl) (by kernel_rfl) rfl (by kernel_rfl) ?base rfl ?ob rfl ?fin
              case base =>
                intro t v ht
                simp only [List.lookup_cons, List.lookup_nil] at ht
                repeat' split at ht
                all_goals first | (cases ht; done) | (obtain rfl := Option.some.inj ht; rename_i hh; obtain rfl := eq_of_beq hh; rfl)
              case ob =>
                exact ⟨obg_of rfl (obt_move (.slice (some ⟨gx, 0, none⟩) R' xc) rfl rfl rfl (srt_b 6 rfl)),
                  obg_of rfl (obt_move (.int .i64 ((a : Int))) rfl rfl rfl (srt_b 11 rfl)),
                  obg_of rfl (obt_two (.pointer (some ⟨gx, a, none⟩)) rfl rfl (srt_j 0 rfl (by kernel_rfl) rfl) (srt_j 1 rfl (by kernel_rfl) rfl) (fun ρ w2 hS hx hy => by subst hS; go_simp)),
                  obg_of rfl (obt_one (.slice (some ⟨gr, 0, none⟩) C' rc) rfl rfl (srt_j 2 rfl (by kernel_rfl) rfl) (fun ρ w2 hS hx => by subst hS; go_simp)),
                  obg_of rfl (obt_move (.int .i64 ((b : Int))) rfl rfl rfl (srt_b 9 rfl)),
                  obg_of rfl (obt_move (.slice (some ⟨gx, 0, none⟩) R' xc) rfl rfl rfl (srt_b 6 rfl)),
                  obg_of rfl (obt_move (.int .i64 ((a : Int))) rfl rfl rfl (srt_b 11 rfl)),
                  obg_of rfl (obt_two (.pointer (some ⟨gx, a, none⟩)) rfl rfl (srt_j 5 rfl (by kernel_rfl) rfl) (srt_j 6 rfl (by kernel_rfl) rfl) (fun ρ w2 hS hx hy => by subst hS; go_simp)),
                  obg_of rfl (obt_one (.slice (some ⟨gr, 0, none⟩) C' rc) rfl rfl (srt_j 7 rfl (by kernel_rfl) rfl) (fun ρ w2 hS hx => by subst hS; go_simp)),
                  obg_of rfl (obt_move (.int .i64 ((b : Int))) rfl rfl rfl (srt_b 9 rfl)),
                  obg_of rfl (obt_two (.pointer (some ⟨gr, b, none⟩)) rfl rfl (srt_j 8 rfl (by kernel_rfl) rfl) (srt_j 9 rfl (by kernel_rfl) rfl) (fun ρ w2 hS hx hy => by subst hS; go_simp)),
                  obg_of rfl (obt_one (.int .i64 (c)) rfl rfl (srt_j 10 rfl (by kernel_rfl) rfl) (fun ρ w2 hS hx => by subst hS; go_simp)),
                  obg_of rfl (obt_move (.int .i64 (z)) rfl rfl rfl (srt_b 10 rfl)),
                  obg_of rfl (obt_two (.int .i64 (sv)) rfl rfl (srt_j 11 rfl (by kernel_rfl) rfl) (srt_j 12 rfl (by kernel_rfl) rfl) (fun ρ w2 hS hx hy => by subst hS; go_simp)),
                  obg_of rfl (obt_two (.pointer (some ⟨gr, b, none⟩)) rfl rfl (srt_j 3 rfl (by kernel_rfl) rfl) (srt_j 4 rfl (by kernel_rfl) rfl) (fun ρ w2 hS hx hy => by subst hS; go_simp)),
                  trivial⟩
              case fin =>
                intro a' w' h1 h2 h3 hS h4 K hK
                have ha := frame_ov rfl h1 h2 h3 [(57, .slice (some ⟨gx, 0, none⟩) R' xc), (58, .int .i64 ((a : Int))), (59, .pointer (some ⟨gx, a, none⟩)), (60, .slice (some ⟨gr, 0, none⟩) C' rc), (61, .int .i64 ((b : Int))), (62, .slice (some ⟨gx, 0, none⟩) R' xc), (63, .int .i64 ((a : Int))), (64, .pointer (some ⟨gx, a, none⟩)), (65, .slice (some ⟨gr, 0, none⟩) C' rc), (66, .int .i64 ((b : Int))), (67, .pointer (some ⟨gr, b, none⟩)), (68, .int .i64 (c)), (69, .int .i64 (z)), (70, .int .i64 (sv)), (71, .pointer (some ⟨gr, b, none⟩))] (by kernel_rfl) ⟨h4 0 57 rfl (by decide), h4 1 58 rfl (by decide), h4 2 59 rfl (by decide), h4 3 60 rfl (by decide), h4 4 61 rfl (by decide), h4 5 62 rfl (by decide), h4 6 63 rfl (by decide), h4 7 64 rfl (by decide), h4 8 65 rfl (by decide), h4 9 66 rfl (by decide), h4 10 67 rfl (by decide), h4 11 68 rfl (by decide), h4 12 69 rfl (by decide), h4 13 70 rfl (by decide), h4 14 71 rfl (by decide), trivial⟩
                dsimp only [ov, List.lookup, Nat.reduceBEq, Nat.reduceAdd] at ha
                have v71 : a'.tmps.getD 71 undef = .pointer (some ⟨gr, b, none⟩) := h4 14 71 rfl (by decide)
                have v70 : a'.tmps.getD 70 undef = .int .i64 (sv) := h4 13 70 rfl (by decide)
                subst hS
                refine run_skip (exec_storeIntG (u := c) rfl v71 v70 hcl hfr) (hK undef _ ?_)
                show Exit.then _ _ Exit.normal a' _
                have E1 : Hid (OwnMat (wi.drew.setCell ⟨gr, b, none⟩ (.int .i64 sv)) (w.heap.size + 1) hi (.slice (some ⟨gx, 0, none⟩) R' xc) (mkM R' C' (putF P a b sv))) := hide (HSET.out sv)
                have E2 : Hid (DirAt (wi.drew.setCell ⟨gr, b, none⟩ (.int .i64 sv)) w.heap.size X0 dy) := hide (dirAt_cell HD2.out _ _ (by simp; omega))
                have E3 : Hid (Below w.heap.size w (wi.drew.setCell ⟨gr, b, none⟩ (.int .i64 sv))) := hide ((below_drew HB2.out).setCell (by simp only; omega) _)
                have E4 : Hid (hi ≤ (wi.drew.setCell ⟨gr, b, none⟩ (.int .i64 sv)).heap.size) := hide (by simp; exact HHI.out)
                clear v70 v71
                generalize wi.drew.setCell ⟨gr, b, none⟩ (.int .i64 sv) = w9 at E1 E2 E3 E4 ⊢
                rw [ha]
                clear ha h1 h2 h3 h4 hst hK
                obtain ⟨gr2, rc2, hcrow2, hcl2, hfr2, hgl2, hgh2, hset2⟩ := ownMat_cell E1.out TY X (by omega) (by omega)
                rw [← HC2.out] at hcl2
                have HSET2 := hide hset2
                obtain ⟨d0, d1⟩ := drC_at E2.out
                simp only at d0 d1
                clear hset2
                go_upto_region 15 with fail
                obtain ⟨fs, hfs⟩ : ∃ fs : List FactP, fs = [(isV (.slice (some ⟨gx, 0, none⟩) R' xc)), (isV (.int .i64 ((TY : Int)))), (isV (.pointer (some ⟨gx, TY, none⟩))), (isV (.slice (some ⟨gr2, 0, none⟩) C' rc2)), (isV (.int .i64 ((b : Int)))), (isV (.pointer (some ⟨w.heap.size, 0, none⟩))), (isV (.int .i64 ((X0 : Int)))), (isV (.int .i64 ((X : Int)))), (isV (.slice (some ⟨gx, 0, none⟩) R' xc)), (isV (.int .i64 ((TY : Int)))), (isV (.pointer (some ⟨gx, TY, none⟩))), (isV (.slice (some ⟨gr2, 0, none⟩) C' rc2)), (isV (.int .i64 ((b : Int)))), (isV (.pointer (some ⟨w.heap.size, 0, none⟩))), (isV (.int .i64 ((X0 : Int)))), (isV (.int .i64 ((X : Int)))), (isV (.pointer (some ⟨gr2, X, none⟩))), (isV (.int .i64 (c2))), (isV (.int .i64 (z))), (isV (.int .i64 (sv2))), (isV (.pointer (some ⟨gr2, X, none⟩)))] := ⟨_, rfl⟩
                have hst : ∀ f ∈ fs, StableP f := by
                  rw [hfs]; intro f hf
                  simp only [List.mem_cons, List.not_mem_nil, or_false] at hf
                  rcases hf with rfl | rfl | rfl | rfl | rfl | rfl | rfl | rfl | rfl | rfl | rfl | rfl | rfl | rfl | rfl | rfl | rfl | rfl | rfl | rfl | rfl <;> exact stable_v _
                subst hfs
                refine wp_region_g (S := fun w2 => w2 = w9.drew) [(isV (.slice (some ⟨gx, 0, none⟩) R' xc)), (isV (.int .i64 ((TY : Int)))), (isV (.pointer (some ⟨gx, TY, none⟩))), (isV (.slice (some ⟨gr2, 0, none⟩) C' rc2)), (isV (.int .i64 ((b : Int)))), (isV (.pointer (some ⟨w.heap.size, 0, none⟩))), (isV (.int .i64 ((X0 : Int)))), (isV (.int .i64 ((X : Int)))), (isV (.slice (some ⟨gx, 0, none⟩) R' xc)), (isV (.int .i64 ((TY : Int)))), (isV (.pointer (some ⟨gx, TY, none⟩))), (isV (.slice (some ⟨gr2, 0, none⟩) C' rc2)), (isV (.int .i64 ((b : Int)))), (isV (.pointer (some ⟨w.heap.size, 0, none⟩))), (isV (.int .i64 ((X0 : Int)))), (isV (.int .i64 ((X : Int)))), (isV (.pointer (some ⟨gr2, X, none⟩))), (isV (.int .i64 (c2))), (isV (.int .i64 (z))), (isV (.int .i64 (sv2))), (isV (.pointer (some ⟨gr2, X, none⟩)))] [(3, .pointer (some ⟨w.heap.size, 0, none⟩)), (6, .slice (some ⟨gx, 0, none⟩) R' xc), (9, .int .i64 ((b : Int))), (10, .int .i64 (z)), (12, .int .i64 ((TY : Int)))] _ _ 21 (by kernel_rfl) rfl rfl (by kernel_rfl) (by kernel_rfl) rfl (by kernel_rfl) ?base rfl ?ob rfl ?fin
                case base =>
                  intro t v ht
                  simp only [List.lookup_cons, List.lookup_nil] at ht
                  repeat' split at ht
                  all_goals first | (cases ht; done) | (obtain rfl := Option.some.inj ht; rename_i hh; obtain rfl := eq_of_beq hh; rfl)
                case ob =>
                  exact ⟨obg_of rfl (obt_move (.slice (some ⟨gx, 0, none⟩) R' xc) rfl rfl rfl (srt_b 6 rfl)),
                    obg_of rfl (obt_move (.int .i64 ((TY : Int))) rfl rfl rfl (srt_b 12 rfl)),
                    obg_of rfl (obt_two (.pointer (some ⟨gx, TY, none⟩)) rfl rfl (srt_j 0 rfl (by kernel_rfl) rfl) (srt_j 1 rfl (by kernel_rfl) rfl) (fun ρ w2 hS hx hy => by subst hS; go_simp)),
                    obg_of rfl (obt_one (.slice (some ⟨gr2, 0, none⟩) C' rc2) rfl rfl (srt_j 2 rfl (by kernel_rfl) rfl) (fun ρ w2 hS hx => by subst hS; go_simp)),
                    obg_of rfl (obt_move (.int .i64 ((b : Int))) rfl rfl rfl (srt_b 9 rfl)),
                    obg_of rfl (obt_one (.pointer (some ⟨w.heap.size, 0, none⟩)) rfl rfl (srt_b 3 rfl) (fun ρ w2 hS hx => exec_field0 rfl hx)),
                    obg_of rfl (obt_one (.int .i64 ((X0 : Int))) rfl rfl (srt_j 5 rfl (by kernel_rfl) rfl) (fun ρ w2 hS hx => by subst hS; go_simp)),
                    obg_of rfl (obt_two (.int .i64 ((X : Int))) rfl rfl (srt_j 4 rfl (by kernel_rfl) rfl) (srt_j 6 rfl (by kernel_rfl) rfl) (fun ρ w2 hS hx hy => by subst hS; go_simp)),
                    obg_of rfl (obt_move (.slice (some ⟨gx, 0, none⟩) R' xc) rfl rfl rfl (srt_b 6 rfl)),
                    obg_of rfl (obt_move (.int .i64 ((TY : Int))) rfl rfl rfl (srt_b 12 rfl)),
                    obg_of rfl (obt_two (.pointer (some ⟨gx, TY, none⟩)) rfl rfl (srt_j 8 rfl (by kernel_rfl) rfl) (srt_j 9 rfl (by kernel_rfl) rfl) (fun ρ w2 hS hx hy => by subst hS; go_simp)),
                    obg_of rfl (obt_one (.slice (some ⟨gr2, 0, none⟩) C' rc2) rfl rfl (srt_j 10 rfl (by kernel_rfl) rfl) (fun ρ w2 hS hx => by subst hS; go_simp)),
                    obg_of rfl (obt_move (.int .i64 ((b : Int))) rfl rfl rfl (srt_b 9 rfl)),
                    obg_of rfl (obt_one (.pointer (some ⟨w.heap.size, 0, none⟩)) rfl rfl (srt_b 3 rfl) (fun ρ w2 hS hx => exec_field0 rfl hx)),
                    obg_of rfl (obt_one (.int .i64 ((X0 : Int))) rfl rfl (srt_j 13 rfl (by kernel_rfl) rfl) (fun ρ w2 hS hx => by subst hS; go_simp)),
                    obg_of rfl (obt_two (.int .i64 ((X : Int))) rfl rfl (srt_j 12 rfl (by kernel_rfl) rfl) (srt_j 14 rfl (by kernel_rfl) rfl) (fun ρ w2 hS hx hy => by subst hS; go_simp)),
                    obg_of rfl (obt_two (.pointer (some ⟨gr2, X, none⟩)) rfl rfl (srt_j 11 rfl (by kernel_rfl) rfl) (srt_j 15 rfl (by kernel_rfl) rfl) (fun ρ w2 hS hx hy => by subst hS; go_simp)),
                    obg_of rfl (obt_one (.int .i64 (c2)) rfl rfl (srt_j 16 rfl (by kernel_rfl) rfl) (fun ρ w2 hS hx => by subst hS; go_simp)),
                    obg_of rfl (obt_move (.int .i64 (z)) rfl rfl rfl (srt_b 10 rfl)),
                    obg_of rfl (obt_two (.int .i64 (sv2)) rfl rfl (srt_j 17 rfl (by kernel_rfl) rfl) (srt_j 18 rfl (by kernel_rfl) rfl) (fun ρ w2 hS hx hy => by subst hS; go_simp)),
                    obg_of rfl (obt_two (.pointer (some ⟨gr2, X, none⟩)) rfl rfl (srt_j 3 rfl (by kernel_rfl) rfl) (srt_j 7 rfl (by kernel_rfl) rfl) (fun ρ w2 hS hx hy => by subst hS; go_simp)),
                    trivial⟩
                case fin =>
                  intro a' w' h1 h2 h3 hS h4 K hK
                  have ha := frame_ov rfl h1 h2 h3 [(72, .slice (some ⟨gx, 0, none⟩) R' xc), (73, .int .i64 ((TY : Int))), (74, .pointer (some ⟨gx, TY, none⟩)), (75, .slice (some ⟨gr2, 0, none⟩) C' rc2), (76, .int .i64 ((b : Int))), (77, .pointer (some ⟨w.heap.size, 0, none⟩)), (78, .int .i64 ((X0 : Int))), (79, .int .i64 ((X : Int))), (80, .slice (some ⟨gx, 0, none⟩) R' xc), (81, .int .i64 ((TY : Int))), (82, .pointer (some ⟨gx, TY, none⟩)), (83, .slice (some ⟨gr2, 0, none⟩) C' rc2), (84, .int .i64 ((b : Int))), (85, .pointer (some ⟨w.heap.size, 0, none⟩)), (86, .int .i64 ((X0 : Int))), (87, .int .i64 ((X : Int))), (88, .pointer (some ⟨gr2, X, none⟩)), (89, .int .i64 (c2)), (90, .int .i64 (z)), (91, .int .i64 (sv2)), (92, .pointer (some ⟨gr2, X, none⟩))] (by kernel_rfl) ⟨h4 0 72 rfl (by decide), h4 1 73 rfl (by decide), h4 2 74 rfl (by decide), h4 3 75 rfl (by decide), h4 4 76 rfl (by decide), h4 5 77 rfl (by decide), h4 6 78 rfl (by decide), h4 7 79 rfl (by decide), h4 8 80 rfl (by decide), h4 9 81 rfl (by decide), h4 10 82 rfl (by decide), h4 11 83 rfl (by decide), h4 12 84 rfl (by decide), h4 13 85 rfl (by decide), h4 14 86 rfl (by decide), h4 15 87 rfl (by decide), h4 16 88 rfl (by decide), h4 17 89 rfl (by decide), h4 18 90 rfl (by decide), h4 19 91 rfl (by decide), h4 20 92 rfl (by decide), trivial⟩
                  dsimp only [ov, List.lookup, Nat.reduceBEq, Nat.reduceAdd] at ha
                  have v92 : a'.tmps.getD 92 undef = .pointer (some ⟨gr2, X, none⟩) := h4 20 92 rfl (by decide)
                  have v91 : a'.tmps.getD 91 undef = .int .i64 (sv2) := h4 19 91 rfl (by decide)
                  subst hS
                  refine run_skip (exec_storeIntG (u := c2) rfl v92 v91 hcl2 hfr2) (hK undef _ ?_)
                  show Exit.inBlock _ _ Exit.normal a' _
                  have K1 : Hid (OwnMat (w9.drew.setCell ⟨gr2, X, none⟩ (.int .i64 sv2)) (w.heap.size + 1) hi (.slice (some ⟨gx, 0, none⟩) R' xc) (mkM R' C' (putF (putF P a b sv) TY X sv2))) := hide (HSET2.out sv2)
                  have K2 : Hid (DirAt (w9.drew.setCell ⟨gr2, X, none⟩ (.int .i64 sv2)) w.heap.size X0 dy) := hide (dirAt_cell E2.out _ _ (by simp; omega))
                  have K3 : Hid (Below w.heap.size w (w9.drew.setCell ⟨gr2, X, none⟩ (.int .i64 sv2))) := hide ((below_drew E3.out).setCell (by simp only; omega) _)
                  have K4 : Hid (hi ≤ (w9.drew.setCell ⟨gr2, X, none⟩ (.int .i64 sv2)).heap.size) := hide (by simp; exact E4.out)
                  clear v91 v92
                  generalize w9.drew.setCell ⟨gr2, X, none⟩ (.int .i64 sv2) = w8 at K1 K2 K3 K4 ⊢
                  rw [ha]
                  clear ha h1 h2 h3 h4 hst hK
                  go_wp2
                  go_roundw
                  case rel => exact ⟨b + 1, by omega, by go_num, by rw [← HSTEP.out]; exact K1.out, K2.out, K3.out, K4.out⟩
                  case measure => simp [intOf]; omega
            · obtain rfl : b = C := by omega
              clear hd
              go_wp2
              go_roundw
              case rel => exact ⟨a + 1, by omega, by go_num, by rw [← HRW.out a]; exact HO2.out, HD2.out, HB2.out, HHI.out⟩
              case measure => simp [intOf]; omega
        · obtain rfl : a = R := by omega
          go_wp2
          go_ret
          exact ⟨_, rfl, ownMat_mono HO1.out (Nat.le_succ _) HH1.out, HB1.out⟩
end Go.Proofs.Ytiajdmoppgpgnaa
