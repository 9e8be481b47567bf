/-
  Texts of this claim, one behind the other: TailG, DirsI, DirsS, Katz, KatzB, KatzC.
-/
import Derived.Test.YtjnnoabaepmcnaaPackB
import Derived.Test.YtjnnoabaepmcnaaPackE
import GoSem.Dispatch
/-
  A region whose last operation waits for all others, some of them guarded: each guard decided ahead.
-/
namespace Go.Proofs.Ytjnnoabaepmcnaa
open Go.RowKit

def Obg (P : Program) (Q : Exit → Act → World → Prop) (base : List (Tmp × Value)) (dsts : List (Option Tmp)) (S : World → Prop) (fs : List FactP) (i : Nat) (o : Oper) : Prop :=
  ∀ (a : Act) (w : World), S w → (∀ t v, base.lookup t = some v → a.tmps.getD t undef = v) →
    (∀ j d, dsts[j]? = some (some d) → depT o j = true → factP fs j (a.tmps.getD d undef) w) →
    ∀ K : Act → World → Prop, (∀ v w', S w' → (∀ j u, factP fs j u w → factP fs j u w') → factP fs i v w' → K (a.put o.dst v) w') →
      ((o.guard = none ∨ ∃ j d b, o.guard = some (j, b) ∧ dsts[j]? = some (some d) ∧ a.tmps.getD d undef = .bool b) ∧ o.wp P a w K Q) ∨
      ((∃ j d b, o.guard = some (j, b) ∧ dsts[j]? = some (some d) ∧ a.tmps.getD d undef = .bool (!b)) ∧ K (a.put o.dst undef) w)
section
variable {P : Program} {Q : Exit → Act → World → Prop} {base : List (Tmp × Value)} {dsts : List (Option Tmp)} {S : World → Prop} {fs : List FactP} {i : Nat} {o : Oper}
/-- No guard. -/
theorem obg_of (hg : o.guard = none) (h : Obt P Q base dsts S fs i o) : Obg P Q base dsts S fs i o := fun a w hS hb hd K hK => .inl ⟨.inl hg, (h a w hS hb hd K hK).2⟩
/-- The guard says yes. -/
theorem obg_yes {d : Tmp} {b : Bool} (j : Nat) (hg : o.guard = some (j, b)) (hj : dsts[j]? = some (some d)) (hd : depT o j = true) (hf : factP fs j = isV (.bool b)) (h : Obt P Q base dsts S fs i { o with guard := none }) : Obg P Q base dsts S fs i o := fun a w hS hb hdep K hK => by
  have hv := hdep j d hj hd
  rw [hf] at hv
  exact .inl ⟨.inr ⟨j, d, b, hg, hj, hv⟩, (h a w hS hb hdep K hK).2⟩
/-- The guard says no: the operation is passed over. -/
theorem obg_no {d : Tmp} {b : Bool} (j : Nat) (hg : o.guard = some (j, b)) (hj : dsts[j]? = some (some d)) (hd : depT o j = true) (hf : factP fs j = isV (.bool (!b))) (hi : factP fs i = isV undef) : Obg P Q base dsts S fs i o := fun a w hS hb hdep K hK => by
  have hv := hdep j d hj hd
  rw [hf] at hv
  exact .inr ⟨⟨j, d, b, hg, hj, hv⟩, hK undef w hS (fun _ _ h => h) (by rw [hi]; rfl)⟩
/-- An operation that yields what its slot's fact asks for, out of its forerunners' facts. -/
theorem obt_any (hg : o.guard = none) (hr : ∀ (a : Act) (w : World), S w → (∀ x u, SrcT base dsts fs o x u → a.eval x = u) → (∀ j d, dsts[j]? = some (some d) → depT o j = true → factP fs j (a.tmps.getD d undef) w) → ∃ v, (execOp a.eval o).run P w = .ok (.value v) w ∧ factP fs i v w) : Obt P Q base dsts S fs i o := fun a w hS hB hD K hK => by
  obtain ⟨v, h1, h2⟩ := hr a w hS (fun x u hx => srt_val hx hB hD) hD
  exact ⟨.inl hg, run_value v h1 (hK _ _ hS (fun _ _ h => h) h2)⟩
theorem obt_pick_t {c x y : Operand} (v : Value) (ho : o.op = .pick c x y) (hf : factP fs i = isV v) (hg : o.guard = none) (hc : SrcT base dsts fs o c (.bool true)) (hx : SrcT base dsts fs o x v) : Obt P Q base dsts S fs i o :=
  obt_run v hf hg fun ρ w _ h => by
    unfold execOp
    simp only [ho, h _ _ hc, h _ _ hx]
    rfl
theorem obt_pick_f {c x y : Operand} (v : Value) (ho : o.op = .pick c x y) (hf : factP fs i = isV v) (hg : o.guard = none) (hc : SrcT base dsts fs o c (.bool false)) (hy : SrcT base dsts fs o y v) : Obt P Q base dsts S fs i o :=
  obt_run v hf hg fun ρ w _ h => by
    unfold execOp
    simp only [ho, h _ _ hc, h _ _ hy]
    rfl
/-- The last operation, run. -/
theorem exec_pick_t {ρ : Operand → Value} {o : Oper} {w : World} {c x y : Operand} {v : Value} (ho : o.op = .pick c x y) (hc : ρ c = .bool true) (hx : ρ x = v) : (execOp ρ o).run P w = .ok (.value v) w := by
  unfold execOp
  simp only [ho, hc, hx]
  rfl
theorem exec_pick_f {ρ : Operand → Value} {o : Oper} {w : World} {c x y : Operand} {v : Value} (ho : o.op = .pick c x y) (hc : ρ c = .bool false) (hy : ρ y = v) : (execOp ρ o).run P w = .ok (.value v) w := by
  unfold execOp
  simp only [ho, hc, hy]
  rfl
theorem exec_notg {ρ : Operand → Value} {o : Oper} {w : World} {x : Operand} {T : TypeId} {b : Bool} (ho : o.op = .unOp .not T x) (hx : ρ x = .bool b) : (execOp ρ o).run P w = .ok (.value (.bool !b)) w := by
  unfold execOp
  simp only [ho, hx]
  rfl
theorem exec_assigng {ρ : Operand → Value} {o : Oper} {w : World} {x : Operand} {v : Value} (ho : o.op = .assign x) (hx : ρ x = v) : (execOp ρ o).run P w = .ok (.value v) w := by
  unfold execOp
  simp only [ho, hx]
  rfl
theorem exec_moveg {ρ : Operand → Value} {o : Oper} {w : World} {x : Operand} {v : Value} (ho : o.op = .move x) (hx : ρ x = v) : (execOp ρ o).run P w = .ok (.value v) w := by
  unfold execOp
  simp only [ho, hx]
  rfl
theorem wp_region_g {ops : Array Oper} {id : Nat} {a : Act} {w : World} {S : World → Prop} (fs : List FactP) (base : List (Tmp × Value)) (dsts : List (Option Tmp)) (last : Oper) (k : Nat)
    (hm : P.follows .mixedOrders = true) (hk : ops.size = k + 1) (hlk : ops[k]? = some last) (ho : orderly .any a.tmps.size 0 [] ops.toList = true) (ht : tails .any ops.toList = true) (hd : ops.toList.map (·.dst) = dsts)
    (hbo : base.all (fun p => outside ops p.1) = true) (hb : ∀ t v, base.lookup t = some v → a.tmps.getD t undef = v)
    (hS : S w.drew) (hob : AllOps (Obg P Q base dsts S fs) 0 ops.toList.dropLast) (hgl : last.guard = none)
    (hlast : ∀ (a' : Act) (w' : World), a'.tmps.size = a.tmps.size → a'.defers = a.defers → (∀ t, outside ops t = true → a'.tmps.getD t undef = a.tmps.getD t undef) → S w' →
      (∀ j d, dsts[j]? = some (some d) → j < k → factP fs j (a'.tmps.getD d undef) w') → ∀ K : Act → World → Prop, (∀ v w2, Q .normal (a'.put last.dst v) w2 → K (a'.put last.dst v) w2) → last.wp P a' w' K Q) :
    (Code.region id ops true).wp P Q a w := by
  have hl : ops[ops.size - 1]? = some last := by rw [hk]; exact hlk
  have hdst' : ∀ (j : Nat) (d : Tmp), dsts[j]? = some (some d) → ∃ o, ops[j]? = some o ∧ o.dst = some d := fun j d h => by
    rw [← hd, List.getElem?_map] at h
    cases hj : ops.toList[j]? with
    | none => rw [hj] at h; simp at h
    | some o =>
      rw [hj] at h
      exact ⟨o, by simpa using hj, by simpa using h⟩
  have hmem : ∀ (t : Tmp) (v : Value) (l : List (Tmp × Value)), l.lookup t = some v → ∃ p ∈ l, p.1 = t := fun t v l => by
    induction l with
    | nil => intro h; simp at h
    | cons x r ih =>
      intro h
      rw [List.lookup_cons] at h
      by_cases e : t == x.1
      · exact ⟨x, List.mem_cons_self, (by simpa using e : t = x.1).symm⟩
      · have e' : (t == x.1) = false := by simpa using e
        rw [e'] at h
        obtain ⟨p, hp, hpt⟩ := ih h
        exact ⟨p, List.mem_cons_of_mem _ hp, hpt⟩
  have hstart : ∀ k, k ≤ ops.size → unl (Array.replicate ops.size false) k = k := by
    intro k
    induction k with
    | zero => intro _; rfl
    | succ k ih =>
      intro hk
      rw [unl, ih (by omega)]
      have : (Array.replicate ops.size false).getD k true = false := by simp [show k < ops.size by omega]
      rw [this]; rfl
  refine wp_region_any hm (wpAny_tail (F := fun i u w => factP fs i u w) ho ht hl (fun i o hi hil a' w' hts hds hout hSw hdep K hK => ?_) (fun a' w' h1 h2 h3 h4 h5 K hK => ?_) _ _ _ _ ⟨by simp, rfl, rfl, fun _ _ => rfl, hS, fun i o d hi _ hl => ?_⟩ (fun k o hk hlk => ?_) ?_ ?_)
  · have hbase : ∀ t v, base.lookup t = some v → a'.tmps.getD t undef = v := fun t v h => by
      obtain ⟨p, hp, rfl⟩ := hmem t v base h
      rw [List.all_eq_true] at hbo
      rw [hout p.1 (hbo p hp)]; exact hb p.1 v h
    have hdep' : ∀ j d, dsts[j]? = some (some d) → depT o j = true → factP fs j (a'.tmps.getD d undef) w' := fun j d h he => by
      unfold depT at he
      rw [Array.any_eq_true] at he
      obtain ⟨n, hn, he⟩ := he
      simp only [Bool.and_eq_true, beq_iff_eq] at he
      obtain ⟨oe, hoe, hde⟩ := hdst' j d h
      have := hdep (o.after[n]) (Array.getElem_mem hn) he.2 oe d (by rw [he.1]; exact hoe) hde
      rw [he.1] at this; exact this
    have hip : ops.toList.dropLast[i]? = some o := by
      have : ops.toList[i]? = some o := by simpa using hi
      rw [List.getElem?_dropLast, if_pos (by simpa using hil)]; exact this
    have hobi := allOps_at _ 0 hob i o hip
    rw [Nat.zero_add] at hobi
    rcases hobi a' w' hSw hbase hdep' K hK with ⟨hg, hwp⟩ | ⟨hg, hwp⟩
    · have hwant : Region.wanted o (yielded ops a'.tmps) = true := by
        rcases hg with hg | ⟨j, d, b, hg, hj, hv⟩
        · simp [Region.wanted, hg]
        · obtain ⟨oj, hoj, hdj⟩ := hdst' j d hj
          have h1 : a'.tmps[d]? = some (.bool b) := by
            cases h : a'.tmps[d]? with
            | none => simp [h] at hv; cases hv
            | some u => simp [h] at hv; rw [hv]
          simp [Region.wanted, hg, yielded, hoj, hdj, h1]
      unfold wpOp
      simp only [hi, hwant, if_true]
      exact .inl hwp
    · have hwant : Region.wanted o (yielded ops a'.tmps) = false := by
        obtain ⟨j, d, b, hg, hj, hv⟩ := hg
        obtain ⟨oj, hoj, hdj⟩ := hdst' j d hj
        have h1 : a'.tmps[d]? = some (.bool (!b)) := by
          cases h : a'.tmps[d]? with
          | none => simp [h] at hv; cases hv
          | some u => simp [h] at hv; rw [hv]
        cases b <;> simp [Region.wanted, hg, yielded, hoj, hdj, h1]
      unfold wpOp
      simp only [hi, hwant]
      exact hwp
  · have hw := hlast a' w' h1 h2 h3 h4 (fun j d h hj => by
      obtain ⟨o, ho', hd'⟩ := hdst' j d h
      exact h5 j o d ho' (by omega) hd') K fun v w2 hq => hK _ _ hq
    unfold wpOp
    have hwant : Region.wanted last (yielded ops a'.tmps) = true := by simp [Region.wanted, hgl]
    simp only [hl, hwant, if_true]
    exact .inl hw
  · exfalso
    have hlt : i < ops.size := (Array.getElem?_eq_some_iff.1 hi).1
    simp [hlt] at hl
  · exfalso
    have hlt : k < ops.size := (Array.getElem?_eq_some_iff.1 hk).1
    simp [hlt] at hlk
  · have hlt : ops.size - 1 < ops.size := by omega
    simp [hlt]
  · rw [hstart _ (Nat.le_refl _)]; exact Nat.le_refl _
end
end Go.Proofs.Ytjnnoabaepmcnaa
/-
  DirectionsOk of the program.
-/
namespace Go.Proofs.Ytjnnoabaepmcnaa
open Go.RowKit
set_option maxRecDepth 100000

theorem exec_sliceTo {ρ : Operand → Value} {o : Oper} {w : World} {x i : Operand} {a : Option Addr} {n c k : Nat} (ho : o.op = .slice 26 x none (some i) none) (hx : ρ x = .slice a n c) (hi : ρ i = .int .i64 k) (hk : k < n) (hn : n ≤ c) : (execOp ρ o).run Try.prog w = .ok (.value (.slice a k c)) w := by
  have hkI : (k : Int) ≤ c := by omega
  have hk0 : (0 : Int) ≤ k := by omega
  unfold execOp
  simp only [ho, hx]
  cases a <;> go_simp
theorem drsC_take {w : World} {a : Option Addr} {c : Nat} {l : List (Int × Int)} (h : DrsC w (.slice a l.length c) l) (k : Nat) (hk : k ≤ l.length) : DrsC w (.slice a k c) (l.take k) := by
  obtain ⟨a', c', hv, hl, hm, hp⟩ := h
  cases hv
  refine ⟨a, c, by rw [List.length_take, Nat.min_eq_left hk], by rw [List.length_take]; omega, hm, ?_⟩
  rcases hp with h0 | ⟨g, o, ha, hg, hc⟩
  · exact .inl (by rw [List.length_take]; omega)
  · refine .inr ⟨g, o, ha, hg, fun i hi => ?_⟩
    rw [List.length_take] at hi
    rw [List.getElem_take]; exact hc i (by omega)
set_option maxHeartbeats 4000000 in
theorem implDirsOk_any (v : Value) (l : List (Int × Int)) (w : World) (hin : DrsC w v l) :
    Calls Try.prog 21 #[v] w fun e w' => e = .returned (.bool (dirsB l)) ∧ Below w.heap.size w w' := by
  have HIN := hide hin
  obtain ⟨a, c, rfl, hlc, hm, hp⟩ := hin
  have HP := hide hp
  unfold maxLen at hm
  have hml : l.length ≤ 2 ^ 63 - 1 := by omega
  by_cases h0 : l.length = 0
  · have HR : Hid (dirsB l = false) := hide (by rw [dirsB, decide_eq_false (by omega), Bool.false_and])
    rw [HR.out]
    rw [h0] at hml hlc ⊢
    clear hp h0 HIN
    go_enter Try.func21, Try.ntmps21
    go_wp2
    go_ret
    exact ⟨rfl, Below.refl _ _⟩
  by_cases h4 : 4 < l.length
  · have HR : Hid (dirsB l = false) := hide (by rw [dirsB, decide_eq_false (by omega), Bool.false_and])
    rw [HR.out]
    obtain ⟨n, hn⟩ : ∃ n, n = l.length := ⟨_, rfl⟩
    rw [← hn] at hml hlc h0 h4 ⊢
    have h4I : (4 : Int) < n := by omega
    have h0I : ((n : Int) == 0) = false := by simp [h0]
    clear hp HIN hn HP
    go_enter Try.func21, Try.ntmps21
    go_wp2
    go_ret
    exact ⟨rfl, Below.refl _ _⟩
  obtain ⟨n, hn⟩ : ∃ n, n = l.length := ⟨_, rfl⟩
  have HN := hide hn
  rw [← hn] at hml hlc h0 h4 HIN ⊢
  have h4I : ¬ (4 : Int) < n := by omega
  have h0I : ((n : Int) == 0) = false := by simp [h0]
  obtain ⟨g, o, rfl, hg, -⟩ := hp.resolve_left (by omega)
  have HCL : Hid (∀ i, (h : i < l.length) → DrC w g (o + i * 2) l[i]) := hide (by
    obtain ⟨g', o', he, -, hc⟩ := HP.out.resolve_left (by omega)
    cases he; exact hc)
  clear hp hn HP
  go_enter Try.func21, Try.ntmps21
  go_wp2
  go_loopw [15] (fun i w' => ∃ k : Nat, k ≤ n ∧ i = .int .i64 k ∧ (∀ t, t < k → freshD l t = true) ∧ Below w.heap.size w w') (fun i _ => n - (intOf i).toNat)
  case atStart => exact ⟨0, Nat.zero_le _, rfl, fun t h => absurd h (Nat.not_lt_zero _), Below.refl _ _⟩
  case round =>
    obtain ⟨k, hk, rfl, hall, hb⟩ := hrel
    have HA := hide hall; have HB := hide hb
    clear hall hb
    by_cases hlt : k < n
    · have hltI : (k : Int) < n := by omega
      have hkl : k < l.length := by rw [← HN.out]; exact hlt
      obtain ⟨d, hd⟩ : ∃ d, d = l[k] := ⟨_, rfl⟩
      have HD := hide hd
      have hc := drC_below (HCL.out k hkl) HB.out hg
      rw [← hd] at hc
      have HF : Hid (freshD l k = (dirOk d.1 d.2 && (l.take k).contains d == false)) := hide (by rw [freshD_at hkl, ← hd]; cases (List.take k l).contains d <;> simp)
      have HWF : Hid (∀ e ∈ l.take k, wfD e) := hide fun e he => by
        obtain ⟨t, ht, rfl⟩ := List.getElem_of_mem he
        rw [List.length_take] at ht
        have h1 := HA.out t (by omega)
        rw [freshD_at (by omega)] at h1
        rw [List.getElem_take]
        exact wfD_of (Bool.and_eq_true _ _ ▸ h1).1
      clear hd
      have HBX : Hid (Below wr.heap.size wr (wr.alloc (.cells #[.int .i64 d.1, .int .i64 d.2] 29))) := hide ((Below.refl _ _).alloc (Nat.le_refl _) _)
      obtain ⟨c0, c1⟩ := hc
      cases hok : dirOk d.1 d.2 with
      | false =>
        have HOK := hide hok
        clear hok
        go_wp2
        obtain ⟨w1, hw1⟩ : ∃ w1, w1 = wr.alloc (.cells #[.int .i64 d.1, .int .i64 d.2] 29) := ⟨_, rfl⟩
        have HD1 : Hid (DirAt w1 wr.heap.size d.1 d.2) := hide (by rw [hw1]; exact heap_alloc_new wr _)
        have HB1 : Hid (Below w.heap.size w w1) := hide (by rw [hw1]; exact HB.out.trans (HBX.out.mono HB.out.size))
        rw [← hw1]
        clear hw1 HBX c0 c1
        obtain ⟨fs, hfs⟩ : ∃ fs : List FactP, fs = [(isV (drV d)), (isV (.bool false)), (isV (.bool true)), (isV (.bool true)), (isV (undef)), (isV (undef)), (isV (undef)), (isV (undef)), (isV (undef))] := ⟨_, rfl⟩
        have hst : ∀ f ∈ fs, StableP f := by
          rw [hfs]; intro f hf
          simp only [List.mem_cons, List.not_mem_nil, or_false] at hf
          rcases hf with rfl | rfl | rfl | rfl | rfl | rfl | rfl | rfl | rfl <;> exact stable_v _
        subst hfs
        refine wp_region_g (S := fun w2 => DirAt w2 wr.heap.size d.1 d.2 ∧ Below w1.heap.size w1 w2) [(isV (drV d)), (isV (.bool false)), (isV (.bool true)), (isV (.bool true)), (isV (undef)), (isV (undef)), (isV (undef)), (isV (undef)), (isV (undef))] [(4, .pointer (some ⟨wr.heap.size, 0, none⟩))] _ _ 9 (by kernel_rfl) rfl rfl (by kernel_rfl) (by kernel_rfl) rfl (by kernel_rfl) ?base ⟨HD1.out, below_drew (Below.refl _ _)⟩ ?ob rfl ?fin
        case base =>
          intro t v ht
          simp only [List.lookup_cons, List.lookup_nil] at ht
          repeat' split at ht
          all_goals first | (cases ht; done) | (obtain rfl := Option.some.inj ht; rename_i hh; obtain rfl := eq_of_beq hh; rfl)
        case ob =>
          exact ⟨obg_of rfl (obt_one (drV d) rfl rfl (srt_b 4 rfl) (fun ρ w2 hS hx => exec_loadDrC0 rfl hx hS.1)),
            obg_of rfl (obt_call hst [drV d] rfl Try.func10 (by kernel_rfl) (by kernel_rfl) rfl ⟨(srt_j 0 rfl (by kernel_rfl) rfl), trivial⟩ (fun w2 hS => (implDirectionOk_any d.1 d.2 w2).mono fun e w3 ⟨he, hh⟩ => ⟨_, he.trans (by rw [HOK.out]), ⟨dirAt_below hS.1 hh, hS.2.trans (hh.mono hS.2.size)⟩, hh, rfl⟩)),
            obg_of rfl (obt_one (.bool true) rfl rfl (srt_j 1 rfl (by kernel_rfl) rfl) (fun ρ w2 hS hx => by go_simp)),
            obg_of rfl (obt_move (.bool true) rfl rfl rfl (srt_j 2 rfl (by kernel_rfl) rfl)),
            obg_no 3 rfl rfl (by kernel_rfl) rfl rfl,
            obg_no 3 rfl rfl (by kernel_rfl) rfl rfl,
            obg_no 3 rfl rfl (by kernel_rfl) rfl rfl,
            obg_no 3 rfl rfl (by kernel_rfl) rfl rfl,
            obg_no 3 rfl rfl (by kernel_rfl) rfl rfl,
            trivial⟩
        case fin =>
          intro a' w' h1 h2 h3 hS h4 K hK
          have ha := frame_ov rfl h1 h2 h3 [(20, drV d), (21, .bool false), (22, .bool true), (23, .bool true), (24, undef), (25, undef), (26, undef), (27, undef), (28, undef), (29, a'.tmps.getD 29 undef)] (by kernel_rfl) ⟨h4 0 20 rfl (by decide), h4 1 21 rfl (by decide), h4 2 22 rfl (by decide), h4 3 23 rfl (by decide), h4 4 24 rfl (by decide), h4 5 25 rfl (by decide), h4 6 26 rfl (by decide), h4 7 27 rfl (by decide), h4 8 28 rfl (by decide), rfl, trivial⟩
          dsimp only [ov, List.lookup, Nat.reduceBEq, Nat.reduceAdd] at ha
          refine run_value (.bool true) (exec_pick_t (v := .bool true) rfl (h4 3 23 rfl (by decide)) (rfl)) (hK (.bool true) _ ?_)
          show Exit.then _ _ Exit.normal (Act.put a' (some 29) (.bool true)) _
          rw [ha]
          generalize a'.tmps.getD 29 undef = u29
          clear ha h1 h2 h3 h4 hst hK
          have HB2 := hide (HB1.out.trans (hS.2.mono HB1.out.size))
          clear hS HB1 HB HD1
          go_wp2
          go_ret
          exact ⟨ret_bool (dirsB_no hkl (by rw [HF.out, HOK.out, Bool.false_and])).symm, HB2.out⟩
      | true =>
        have HOK := hide hok
        clear hok
        cases hcn : (l.take k).contains d with
        | true =>
          have HCN := hide hcn
          clear hcn
          go_wp2
          obtain ⟨w1, hw1⟩ : ∃ w1, w1 = wr.alloc (.cells #[.int .i64 d.1, .int .i64 d.2] 29) := ⟨_, rfl⟩
          have HD1 : Hid (DirAt w1 wr.heap.size d.1 d.2) := hide (by rw [hw1]; exact heap_alloc_new wr _)
          have HB1 : Hid (Below w.heap.size w w1) := hide (by rw [hw1]; exact HB.out.trans (HBX.out.mono HB.out.size))
          rw [← hw1]
          clear hw1 HBX c0 c1
          obtain ⟨fs, hfs⟩ : ∃ fs : List FactP, fs = [(isV (drV d)), (isV (.bool true)), (isV (.bool false)), (isV (.bool false)), (isV (.slice (some ⟨g, o, none⟩) n c)), (isV (.int .i64 k)), (isV (.slice (some ⟨g, o, none⟩) k c)), (isV (drV d)), (isV (.bool true))] := ⟨_, rfl⟩
          have hst : ∀ f ∈ fs, StableP f := by
            rw [hfs]; intro f hf
            simp only [List.mem_cons, List.not_mem_nil, or_false] at hf
            rcases hf with rfl | rfl | rfl | rfl | rfl | rfl | rfl | rfl | rfl <;> exact stable_v _
          subst hfs
          refine wp_region_g (S := fun w2 => DirAt w2 wr.heap.size d.1 d.2 ∧ Below w1.heap.size w1 w2) [(isV (drV d)), (isV (.bool true)), (isV (.bool false)), (isV (.bool false)), (isV (.slice (some ⟨g, o, none⟩) n c)), (isV (.int .i64 k)), (isV (.slice (some ⟨g, o, none⟩) k c)), (isV (drV d)), (isV (.bool true))] [(0, .slice (some ⟨g, o, none⟩) n c), (3, .int .i64 k), (4, .pointer (some ⟨wr.heap.size, 0, none⟩))] _ _ 9 (by kernel_rfl) rfl rfl (by kernel_rfl) (by kernel_rfl) rfl (by kernel_rfl) ?base ⟨HD1.out, below_drew (Below.refl _ _)⟩ ?ob rfl ?fin
          case base =>
            intro t v ht
            simp only [List.lookup_cons, List.lookup_nil] at ht
            repeat' split at ht
            all_goals first | (cases ht; done) | (obtain rfl := Option.some.inj ht; rename_i hh; obtain rfl := eq_of_beq hh; rfl)
          case ob =>
            exact ⟨obg_of rfl (obt_one (drV d) rfl rfl (srt_b 4 rfl) (fun ρ w2 hS hx => exec_loadDrC0 rfl hx hS.1)),
              obg_of rfl (obt_call hst [drV d] rfl Try.func10 (by kernel_rfl) (by kernel_rfl) rfl ⟨(srt_j 0 rfl (by kernel_rfl) rfl), trivial⟩ (fun w2 hS => (implDirectionOk_any d.1 d.2 w2).mono fun e w3 ⟨he, hh⟩ => ⟨_, he.trans (by rw [HOK.out]), ⟨dirAt_below hS.1 hh, hS.2.trans (hh.mono hS.2.size)⟩, hh, rfl⟩)),
              obg_of rfl (obt_one (.bool false) rfl rfl (srt_j 1 rfl (by kernel_rfl) rfl) (fun ρ w2 hS hx => by go_simp)),
              obg_of rfl (obt_move (.bool false) rfl rfl rfl (srt_j 2 rfl (by kernel_rfl) rfl)),
              obg_yes 3 rfl rfl (by kernel_rfl) rfl (obt_move (.slice (some ⟨g, o, none⟩) n c) rfl rfl rfl (srt_b 0 rfl)),
              obg_yes 3 rfl rfl (by kernel_rfl) rfl (obt_move (.int .i64 k) rfl rfl rfl (srt_b 3 rfl)),
              obg_yes 3 rfl rfl (by kernel_rfl) rfl (obt_two (.slice (some ⟨g, o, none⟩) k c) rfl rfl (srt_j 4 rfl (by kernel_rfl) rfl) (srt_j 5 rfl (by kernel_rfl) rfl) (fun ρ w2 hS hx hy => exec_sliceTo rfl hx hy hlt hlc)),
              obg_yes 3 rfl rfl (by kernel_rfl) rfl (obt_one (drV d) rfl rfl (srt_b 4 rfl) (fun ρ w2 hS hx => exec_loadDrC0 rfl hx hS.1)),
              obg_yes 3 rfl rfl (by kernel_rfl) rfl (obt_call hst [.slice (some ⟨g, o, none⟩) k c, drV d] rfl Try.func50 (by kernel_rfl) (by kernel_rfl) rfl ⟨(srt_j 6 rfl (by kernel_rfl) rfl), (srt_j 7 rfl (by kernel_rfl) rfl), trivial⟩ (fun w2 hS => (containsDr_any _ (l.take k) d w2 (drsC_below (drsC_take (by have := HIN.out; rw [HN.out] at this; exact this) k (by omega)) (HB1.out.trans (hS.2.mono HB1.out.size))) HWF.out (wfD_of HOK.out) (by rw [List.length_take]; omega)).mono fun e w3 ⟨he, hh⟩ => ⟨_, he.trans (by rw [HCN.out]), ⟨dirAt_below hS.1 hh, hS.2.trans (hh.mono hS.2.size)⟩, hh, rfl⟩)),
              trivial⟩
          case fin =>
            intro a' w' h1 h2 h3 hS h4 K hK
            have ha := frame_ov rfl h1 h2 h3 [(20, drV d), (21, .bool true), (22, .bool false), (23, .bool false), (24, .slice (some ⟨g, o, none⟩) n c), (25, .int .i64 k), (26, .slice (some ⟨g, o, none⟩) k c), (27, drV d), (28, .bool true), (29, a'.tmps.getD 29 undef)] (by kernel_rfl) ⟨h4 0 20 rfl (by decide), h4 1 21 rfl (by decide), h4 2 22 rfl (by decide), h4 3 23 rfl (by decide), h4 4 24 rfl (by decide), h4 5 25 rfl (by decide), h4 6 26 rfl (by decide), h4 7 27 rfl (by decide), h4 8 28 rfl (by decide), rfl, trivial⟩
            dsimp only [ov, List.lookup, Nat.reduceBEq, Nat.reduceAdd] at ha
            refine run_value (.bool true) (exec_pick_f (v := .bool true) rfl (h4 3 23 rfl (by decide)) (h4 8 28 rfl (by decide))) (hK (.bool true) _ ?_)
            show Exit.then _ _ Exit.normal (Act.put a' (some 29) (.bool true)) _
            rw [ha]
            generalize a'.tmps.getD 29 undef = u29
            clear ha h1 h2 h3 h4 hst hK
            have HB2 := hide (HB1.out.trans (hS.2.mono HB1.out.size))
            clear hS HB1 HB HD1
            go_wp2
            go_ret
            exact ⟨ret_bool (dirsB_no hkl (by rw [HF.out, HCN.out]; simp)).symm, HB2.out⟩
        | false =>
          have HCN := hide hcn
          clear hcn
          go_wp2
          obtain ⟨w1, hw1⟩ : ∃ w1, w1 = wr.alloc (.cells #[.int .i64 d.1, .int .i64 d.2] 29) := ⟨_, rfl⟩
          have HD1 : Hid (DirAt w1 wr.heap.size d.1 d.2) := hide (by rw [hw1]; exact heap_alloc_new wr _)
          have HB1 : Hid (Below w.heap.size w w1) := hide (by rw [hw1]; exact HB.out.trans (HBX.out.mono HB.out.size))
          rw [← hw1]
          clear hw1 HBX c0 c1
          obtain ⟨fs, hfs⟩ : ∃ fs : List FactP, fs = [(isV (drV d)), (isV (.bool true)), (isV (.bool false)), (isV (.bool false)), (isV (.slice (some ⟨g, o, none⟩) n c)), (isV (.int .i64 k)), (isV (.slice (some ⟨g, o, none⟩) k c)), (isV (drV d)), (isV (.bool false))] := ⟨_, rfl⟩
          have hst : ∀ f ∈ fs, StableP f := by
            rw [hfs]; intro f hf
            simp only [List.mem_cons, List.not_mem_nil, or_false] at hf
            rcases hf with rfl | rfl | rfl | rfl | rfl | rfl | rfl | rfl | rfl <;> exact stable_v _
          subst hfs
          refine wp_region_g (S := fun w2 => DirAt w2 wr.heap.size d.1 d.2 ∧ Below w1.heap.size w1 w2) [(isV (drV d)), (isV (.bool true)), (isV (.bool false)), (isV (.bool false)), (isV (.slice (some ⟨g, o, none⟩) n c)), (isV (.int .i64 k)), (isV (.slice (some ⟨g, o, none⟩) k c)), (isV (drV d)), (isV (.bool false))] [(0, .slice (some ⟨g, o, none⟩) n c), (3, .int .i64 k), (4, .pointer (some ⟨wr.heap.size, 0, none⟩))] _ _ 9 (by kernel_rfl) rfl rfl (by kernel_rfl) (by kernel_rfl) rfl (by kernel_rfl) ?base ⟨HD1.out, below_drew (Below.refl _ _)⟩ ?ob rfl ?fin
          case base =>
            intro t v ht
            simp only [List.lookup_cons, List.lookup_nil] at ht
            repeat' split at ht
            all_goals first | (cases ht; done) | (obtain rfl := Option.some.inj ht; rename_i hh; obtain rfl := eq_of_beq hh; rfl)
          case ob =>
            exact ⟨obg_of rfl (obt_one (drV d) rfl rfl (srt_b 4 rfl) (fun ρ w2 hS hx => exec_loadDrC0 rfl hx hS.1)),
              obg_of rfl (obt_call hst [drV d] rfl Try.func10 (by kernel_rfl) (by kernel_rfl) rfl ⟨(srt_j 0 rfl (by kernel_rfl) rfl), trivial⟩ (fun w2 hS => (implDirectionOk_any d.1 d.2 w2).mono fun e w3 ⟨he, hh⟩ => ⟨_, he.trans (by rw [HOK.out]), ⟨dirAt_below hS.1 hh, hS.2.trans (hh.mono hS.2.size)⟩, hh, rfl⟩)),
              obg_of rfl (obt_one (.bool false) rfl rfl (srt_j 1 rfl (by kernel_rfl) rfl) (fun ρ w2 hS hx => by go_simp)),
              obg_of rfl (obt_move (.bool false) rfl rfl rfl (srt_j 2 rfl (by kernel_rfl) rfl)),
              obg_yes 3 rfl rfl (by kernel_rfl) rfl (obt_move (.slice (some ⟨g, o, none⟩) n c) rfl rfl rfl (srt_b 0 rfl)),
              obg_yes 3 rfl rfl (by kernel_rfl) rfl (obt_move (.int .i64 k) rfl rfl rfl (srt_b 3 rfl)),
              obg_yes 3 rfl rfl (by kernel_rfl) rfl (obt_two (.slice (some ⟨g, o, none⟩) k c) rfl rfl (srt_j 4 rfl (by kernel_rfl) rfl) (srt_j 5 rfl (by kernel_rfl) rfl) (fun ρ w2 hS hx hy => exec_sliceTo rfl hx hy hlt hlc)),
              obg_yes 3 rfl rfl (by kernel_rfl) rfl (obt_one (drV d) rfl rfl (srt_b 4 rfl) (fun ρ w2 hS hx => exec_loadDrC0 rfl hx hS.1)),
              obg_yes 3 rfl rfl (by kernel_rfl) rfl (obt_call hst [.slice (some ⟨g, o, none⟩) k c, drV d] rfl Try.func50 (by kernel_rfl) (by kernel_rfl) rfl ⟨(srt_j 6 rfl (by kernel_rfl) rfl), (srt_j 7 rfl (by kernel_rfl) rfl), trivial⟩ (fun w2 hS => (containsDr_any _ (l.take k) d w2 (drsC_below (drsC_take (by have := HIN.out; rw [HN.out] at this; exact this) k (by omega)) (HB1.out.trans (hS.2.mono HB1.out.size))) HWF.out (wfD_of HOK.out) (by rw [List.length_take]; omega)).mono fun e w3 ⟨he, hh⟩ => ⟨_, he.trans (by rw [HCN.out]), ⟨dirAt_below hS.1 hh, hS.2.trans (hh.mono hS.2.size)⟩, hh, rfl⟩)),
              trivial⟩
          case fin =>
            intro a' w' h1 h2 h3 hS h4 K hK
            have ha := frame_ov rfl h1 h2 h3 [(20, drV d), (21, .bool true), (22, .bool false), (23, .bool false), (24, .slice (some ⟨g, o, none⟩) n c), (25, .int .i64 k), (26, .slice (some ⟨g, o, none⟩) k c), (27, drV d), (28, .bool false), (29, a'.tmps.getD 29 undef)] (by kernel_rfl) ⟨h4 0 20 rfl (by decide), h4 1 21 rfl (by decide), h4 2 22 rfl (by decide), h4 3 23 rfl (by decide), h4 4 24 rfl (by decide), h4 5 25 rfl (by decide), h4 6 26 rfl (by decide), h4 7 27 rfl (by decide), h4 8 28 rfl (by decide), rfl, trivial⟩
            dsimp only [ov, List.lookup, Nat.reduceBEq, Nat.reduceAdd] at ha
            refine run_value (.bool false) (exec_pick_f (v := .bool false) rfl (h4 3 23 rfl (by decide)) (h4 8 28 rfl (by decide))) (hK (.bool false) _ ?_)
            show Exit.then _ _ Exit.normal (Act.put a' (some 29) (.bool false)) _
            rw [ha]
            generalize a'.tmps.getD 29 undef = u29
            clear ha h1 h2 h3 h4 hst hK
            have HB2 := hide (HB1.out.trans (hS.2.mono HB1.out.size))
            clear hS HB1 HD1
            go_wp2
            go_roundw
            case rel => exact ⟨k + 1, by omega, by go_num, fun t ht => by
              by_cases h2 : t < k
              · exact HA.out t h2
              · obtain rfl : t = k := by omega
                rw [HF.out, HOK.out, HCN.out]; rfl, HB2.out⟩
            case measure => simp [intOf]; omega
    · obtain rfl : k = n := by omega
      go_wp2
      go_ret
      exact ⟨ret_bool (dirsB_yes (fun t ht => HA.out t (by rw [HN.out]; exact ht)) (by rw [← HN.out]; omega)).symm, HB.out⟩
end Go.Proofs.Ytjnnoabaepmcnaa
/-
  DirectionsOk of the model.
-/
namespace Go.Proofs.Ytjnnoabaepmcnaa
open Go.RowKit
set_option maxRecDepth 100000

set_option maxHeartbeats 4000000 in
theorem specDirsOk_any (v : Value) (l : List (Int × Int)) (w : World) (hin : DrsC w v l) :
    Calls Try.prog 34 #[v] w fun e w' => e = .returned (.bool (dirsB l)) ∧ Below w.heap.size w w' := by
  obtain ⟨a, c, rfl, hlc, hm, hp⟩ := hin
  have HP := hide hp
  unfold maxLen at hm
  have hml : l.length ≤ 2 ^ 63 - 1 := by omega
  obtain ⟨n, hn⟩ : ∃ n, n = l.length := ⟨_, rfl⟩
  have HN := hide hn
  rw [← hn] at hml hlc ⊢
  clear hp hn
  by_cases h14 : 1 ≤ (n : Int) ∧ (n : Int) ≤ 4
  · have H14 := hide (decide_eq_true h14)
    obtain ⟨h1, h4⟩ := h14
    obtain ⟨g, o, rfl, hg, -⟩ := HP.out.resolve_left (by rw [← HN.out]; omega)
    have HCL : Hid (∀ i, (h : i < l.length) → DrC w g (o + i * 2) l[i]) := hide (by
      obtain ⟨g', o', he, -, hc⟩ := HP.out.resolve_left (by rw [← HN.out]; omega)
      cases he; exact hc)
    clear HP
    go_enter Try.func34, Try.ntmps34
    go_wp2_with ((with_reducible refine (l01In_any (n : Int) 1 4 _).mono ?_); rw [H14.out]; rintro e w' ⟨rfl, rfl⟩)
    go_loopw [13] (fun i w' => ∃ k : Nat, k ≤ n ∧ i = .int .i64 k ∧ (∀ t, t < k → freshD l t = true) ∧ Below w.heap.size w w') (fun i _ => n - (intOf i).toNat)
    case atStart => exact ⟨0, Nat.zero_le _, rfl, fun t h => absurd h (Nat.not_lt_zero _), Below.refl _ _⟩
    case round =>
      obtain ⟨wo, rfl⟩ : ∃ wo, wo = wr := ⟨_, rfl⟩
      obtain ⟨k, hk, rfl, hall, hb⟩ := hrel
      have HA := hide hall; have HB := hide hb
      clear hall hb
      by_cases hlt : k < n
      · have hltI : (k : Int) < n := by omega
        have hkl : k < l.length := by rw [← HN.out]; exact hlt
        obtain ⟨d, hd⟩ : ∃ d, d = l[k] := ⟨_, rfl⟩
        have HD := hide hd
        have hc := drC_below (HCL.out k hkl) HB.out hg
        rw [← hd] at hc
        have HF : Hid (freshD l k = (dirOk d.1 d.2 && (l.take k).contains d == false)) := hide (by rw [freshD_at hkl, ← hd]; cases (List.take k l).contains d <;> simp)
        have HWF : Hid (∀ t, (h : t < l.length) → t < k → wfD l[t]) := hide fun t ht htk => by
          have h1 := HA.out t htk
          rw [freshD_at ht] at h1
          exact wfD_of (Bool.and_eq_true _ _ ▸ h1).1
        clear hd
        have HBX : Hid (Below wo.heap.size wo (wo.alloc (.cells #[.int .i64 d.1, .int .i64 d.2] 29))) := hide ((Below.refl _ _).alloc (Nat.le_refl _) _)
        have HD1 : Hid (DirAt (wo.alloc (.cells #[.int .i64 d.1, .int .i64 d.2] 29)) wo.heap.size d.1 d.2) := hide (heap_alloc_new wo _)
        have hkc : (k : Int) ≤ c := by omega
        have hk0 : (0 : Int) ≤ k := by omega
        obtain ⟨c0, c1⟩ := hc
        cases hok : dirOk d.1 d.2 with
        | false =>
          have HOK := hide hok
          clear hok
          go_wp2_with (first | (with_reducible refine wpList_loadDir HD1.out rfl _ rfl rfl ?_) | ((with_reducible refine (specDirectionOk_any d.1 d.2 _).mono ?_); rw [HOK.out]; rintro e w2 ⟨rfl, hb⟩; have HB2 := hide (HB.out.trans ((HBX.out.trans (hb.mono HBX.out.size)).mono HB.out.size)); clear hb))
          go_ret
          exact ⟨ret_bool (dirsB_no hkl (by rw [HF.out, HOK.out, Bool.false_and])).symm, HB2.out⟩
        | true =>
          have HOK := hide hok
          clear hok
          go_wp2_with (first | (with_reducible refine wpList_loadDir HD1.out rfl _ rfl rfl ?_) | ((with_reducible refine (specDirectionOk_any d.1 d.2 _).mono ?_); rw [HOK.out]; rintro e w2 ⟨rfl, hb⟩; have HD2 := hide (dirAt_below HD1.out hb); have HB2 := hide (HB.out.trans ((HBX.out.trans (hb.mono HBX.out.size)).mono HB.out.size)); have hs2 := HBX.out.size; have hs3 := hb.size; clear hb))
          go_loopw [25] (fun i w' => ∃ j : Nat, j ≤ k ∧ i = .int .i64 j ∧ (∀ t, (h : t < l.length) → t < j → l[t] ≠ d) ∧ DirAt w' wo.heap.size d.1 d.2 ∧ Below w.heap.size w w') (fun i _ => k - (intOf i).toNat)
          case atStart => exact ⟨0, Nat.zero_le _, rfl, fun t _ h => absurd h (Nat.not_lt_zero _), HD2.out, HB2.out⟩
          case round =>
            obtain ⟨wi, rfl⟩ : ∃ wi, wi = wr := ⟨_, rfl⟩
            obtain ⟨j, hj, rfl, hall, hda, hb⟩ := hrel
            have HA2 := hide hall; have HD3 := hide hda; have HB3 := hide hb
            clear hall hda hb
            by_cases hlj : j < k
            · have hljI : (j : Int) < k := by omega
              have hjl : j < l.length := by rw [← HN.out]; omega
              have hq := drC_below (HCL.out j hjl) HB3.out hg
              obtain ⟨u, hu⟩ : ∃ u, u = l[j] := ⟨_, rfl⟩
              have HU := hide hu
              have HWU : Hid (wfD u) := hide (by rw [hu]; exact HWF.out j hjl hlj)
              rw [← hu] at hq
              clear hu
              obtain ⟨q0, q1⟩ := hq
              have HBY : Hid (Below wi.heap.size wi (wi.alloc (.cells #[.int .i64 u.1, .int .i64 u.2] 29))) := hide ((Below.refl _ _).alloc (Nat.le_refl _) _)
              have HE1 : Hid (DirAt (wi.alloc (.cells #[.int .i64 u.1, .int .i64 u.2] 29)) wi.heap.size u.1 u.2) := hide (heap_alloc_new wi _)
              have HD4 := hide (dirAt_below HD3.out HBY.out)
              have HB4 := hide (HB3.out.trans (HBY.out.mono HB3.out.size))
              by_cases he : u = d
              · have heq : ∀ w, (binOp .eql 29 (.agg #[.int .i64 u.1, .int .i64 u.2]) (.agg #[.int .i64 d.1, .int .i64 d.2])).run Try.prog w = .ok (.bool true) w := run_eqDr HWU.out (wfD_of HOK.out) true (by simp [he])
                have heg : ∀ w, (eqGuard .eql 29 (.tmp 29) (.tmp 30) (.agg #[.int .i64 u.1, .int .i64 u.2]) (.agg #[.int .i64 d.1, .int .i64 d.2])).run Try.prog w = .ok () w := eqGuard_dr u d _ _
                have HE := hide he
                clear he
                go_wp2_with (first | (with_reducible refine wpList_loadDir HE1.out rfl _ rfl rfl ?_) | (with_reducible refine wpList_loadDir HD4.out rfl _ rfl rfl ?_))
                go_ret
                exact ⟨ret_bool (dirsB_no hkl (by
                  rw [HF.out, HOK.out, List.contains_iff_mem.2]
                  · rfl
                  · rw [← HE.out, HU.out]
                    exact List.mem_take_iff_getElem.2 ⟨j, by rw [← HN.out]; omega, rfl⟩)).symm, HB4.out⟩
              · have heq : ∀ w, (binOp .eql 29 (.agg #[.int .i64 u.1, .int .i64 u.2]) (.agg #[.int .i64 d.1, .int .i64 d.2])).run Try.prog w = .ok (.bool false) w := run_eqDr HWU.out (wfD_of HOK.out) false (by simp [he])
                have heg : ∀ w, (eqGuard .eql 29 (.tmp 29) (.tmp 30) (.agg #[.int .i64 u.1, .int .i64 u.2]) (.agg #[.int .i64 d.1, .int .i64 d.2])).run Try.prog w = .ok () w := eqGuard_dr u d _ _
                have HE := hide he
                clear he
                go_wp2_with (first | (with_reducible refine wpList_loadDir HE1.out rfl _ rfl rfl ?_) | (with_reducible refine wpList_loadDir HD4.out rfl _ rfl rfl ?_))
                go_roundw
                case rel => exact ⟨j + 1, by omega, by go_num, fun t ht h => by
                  by_cases h2 : t < j
                  · exact HA2.out t ht h2
                  · obtain rfl : t = j := by omega
                    rw [← HU.out]; exact HE.out, HD4.out, HB4.out⟩
                case measure => simp [intOf]; omega
            · obtain rfl : j = k := by omega
              have HNC : Hid ((l.take j).contains d = false) := hide (Bool.eq_false_iff.2 fun hc => by
                obtain ⟨t, ht, he⟩ := List.getElem_of_mem (List.contains_iff_mem.1 hc)
                rw [List.getElem_take] at he
                rw [List.length_take] at ht
                exact HA2.out t (by omega) (by omega) he)
              go_wp2
              go_roundw
              case rel => exact ⟨j + 1, by omega, by go_num, fun t ht => by
                by_cases h2 : t < j
                · exact HA.out t h2
                · obtain rfl : t = j := by omega
                  rw [HF.out, HOK.out, HNC.out]; rfl, HB3.out⟩
              case measure => simp [intOf]; omega
      · obtain rfl : k = n := by omega
        go_wp2
        go_ret
        exact ⟨ret_bool (dirsB_yes (fun t ht => HA.out t (by rw [HN.out]; exact ht)) (by rw [← HN.out]; omega)).symm, HB.out⟩
  · have H14 := hide (decide_eq_false h14)
    have HR : Hid (dirsB l = false) := hide (by rw [dirsB, decide_eq_false (by rw [← HN.out]; omega), Bool.false_and])
    clear h14
    rw [HR.out]
    go_enter Try.func34, Try.ntmps34
    go_wp2_with ((with_reducible refine (l01In_any (n : Int) 1 4 _).mono ?_); rw [H14.out]; rintro e w' ⟨rfl, rfl⟩)
    go_ret
    exact ⟨rfl, Below.refl _ _⟩
end Go.Proofs.Ytjnnoabaepmcnaa
/-! PURE: a grid whose sums on all lines in some directions are 0 and that is too small for them is 0 (for FnDetermined). Sums over whole ranges of numbers, by counting from a lower bound. -/
namespace Go.Katz
set_option linter.unusedSimpArgs false

/-- The sum of h over a, a + 1, .., a + n - 1. -/
def T (a : Int) : Nat → (Int → Int) → Int
  | 0, _ => 0
  | n + 1, h => T a n h + h (a + n)

theorem T_congr {a : Int} {n : Nat} {h k : Int → Int} (e : ∀ i, a ≤ i → i < a + n → h i = k i) : T a n h = T a n k := by
  induction n with
  | zero => rfl
  | succ n ih =>
    unfold T
    rw [ih fun i h1 h2 => e i h1 (by omega), e (a + n) (by omega) (by omega)]

theorem T_zero {a : Int} {n : Nat} {h : Int → Int} (e : ∀ i, a ≤ i → i < a + n → h i = 0) : T a n h = 0 := by
  induction n with
  | zero => rfl
  | succ n ih =>
    unfold T
    rw [ih fun i h1 h2 => e i h1 (by omega), e (a + n) (by omega) (by omega), Int.add_zero]

theorem T_sub (a : Int) (n : Nat) (h k : Int → Int) : T a n (fun i => h i - k i) = T a n h - T a n k := by
  induction n with
  | zero => rfl
  | succ n ih =>
    simp only [T]
    rw [ih]
    omega

/-- One number alone counts. -/
theorem T_one {a : Int} {n : Nat} {h : Int → Int} (j : Int) (h1 : a ≤ j) (h2 : j < a + n) (e : ∀ i, a ≤ i → i < a + n → i ≠ j → h i = 0) : T a n h = h j := by
  induction n with
  | zero => omega
  | succ n ih =>
    unfold T
    by_cases hj : j = a + n
    · subst hj
      rw [T_zero fun i h1 h2 => e i h1 (by omega) (by omega), Int.zero_add]
    · rw [ih (by omega) fun i h1 h2 h3 => e i h1 (by omega) h3, e (a + n) (by omega) (by omega) (by omega), Int.add_zero]

/-- The sum from the front. -/
theorem T_front (a : Int) (n : Nat) (h : Int → Int) : T a (n + 1) h = h a + T (a + 1) n h := by
  induction n with
  | zero => simp [T]
  | succ n ih =>
    have e1 : T a (n + 2) h = T a (n + 1) h + h (a + (n + 1 : Nat)) := rfl
    have e2 : T (a + 1) (n + 1) h = T (a + 1) n h + h (a + 1 + n) := rfl
    rw [e1, e2, ih, show a + ((n + 1 : Nat) : Int) = a + 1 + n by omega]
    omega

/-- What lies outside counts nothing: a greater range has the same sum. -/
theorem T_wide {a b : Int} {n m : Nat} {h : Int → Int} (hb : b ≤ a) (hm : a + n ≤ b + m) (e : ∀ i, (i < a ∨ a + n ≤ i) → h i = 0) : T b m h = T a n h := by
  have front : ∀ (k : Nat) (b : Int) (m : Nat), b + k = a → a ≤ b + m → T b m h = T a (m - k) h := by
    intro k
    induction k with
    | zero => intro b m hk _; rw [show b = a by omega, Nat.sub_zero]
    | succ k ih =>
      intro b m hk hm
      obtain ⟨m', rfl⟩ : ∃ m', m = m' + 1 := ⟨m - 1, by omega⟩
      rw [T_front, e b (.inl (by omega)), Int.zero_add, ih (b + 1) m' (by omega) (by omega)]
      congr 1
      omega
  have back : ∀ k : Nat, T a (n + k) h = T a n h := by
    intro k
    induction k with
    | zero => rfl
    | succ k ih =>
      show T a (n + k) h + h (a + ((n + k : Nat) : Int)) = _
      rw [ih, e _ (.inr (by omega)), Int.add_zero]
  rw [front (a - b).toNat b m (by omega) (by omega)]
  have := back (m - (a - b).toNat - n)
  rw [← this]
  congr 1
  omega

theorem T_shift (a d : Int) (n : Nat) (h : Int → Int) : T a n (fun i => h (i - d)) = T (a - d) n h := by
  induction n with
  | zero => rfl
  | succ n ih =>
    simp only [T]
    rw [ih, show a + (n : Int) - d = a - d + n by omega]

/-- The sum over a rectangle of numbers. -/
def TT (N : Nat) (f : Int → Int → Int) : Int := T (-N) (2 * N) fun y => T (-N) (2 * N) fun x => f y x

/-- It lies within R rows and C columns from (y0, x0) on. -/
def In (y0 x0 R C : Int) (f : Int → Int → Int) : Prop := ∀ y x, (y < y0 ∨ y0 + R ≤ y ∨ x < x0 ∨ x0 + C ≤ x) → f y x = 0

/-- The sum on line k in direction (dx, dy). -/
def L (N : Nat) (dx dy : Int) (f : Int → Int → Int) (k : Int) : Int := TT N fun y x => if dx * y - dy * x = k then f y x else 0

theorem TT_sub (N : Nat) (f g : Int → Int → Int) : TT N (fun y x => f y x - g y x) = TT N f - TT N g := by
  unfold TT
  rw [← T_sub]
  exact T_congr fun y _ _ => T_sub _ _ _ _

theorem TT_zero {N : Nat} {f : Int → Int → Int} (h : ∀ y x, f y x = 0) : TT N f = 0 := T_zero fun y _ _ => T_zero fun x _ _ => h y x

theorem TT_congr {N : Nat} {f g : Int → Int → Int} (h : ∀ y x : Int, -(N : Int) ≤ y → y < N → -(N : Int) ≤ x → x < N → f y x = g y x) : TT N f = TT N g :=
  T_congr fun y h1 h2 => T_congr fun x h3 h4 => h y x h1 (by omega) h3 (by omega)

/-- One cell alone counts. -/
theorem TT_one {N : Nat} {f : Int → Int → Int} (y x : Int) (h1 : -(N : Int) ≤ y) (h2 : y < N) (h3 : -(N : Int) ≤ x) (h4 : x < N) (e : ∀ y' x', ¬ (y' = y ∧ x' = x) → f y' x' = 0) : TT N f = f y x := by
  unfold TT
  rw [T_one y h1 (by omega) fun i _ _ hi => T_zero fun x' _ _ => e i x' fun hh => hi hh.1]
  exact T_one x h3 (by omega) fun i _ _ hi => e y i fun hh => hi hh.2

/-- A step that does not leave the range does not change the sum. -/
theorem TT_shift {N : Nat} {f : Int → Int → Int} {y0 x0 R C dy dx : Int} (hf : In y0 x0 R C f) (h1 : -N ≤ y0) (h2 : y0 + R ≤ N) (h3 : -N ≤ x0) (h4 : x0 + C ≤ N) (g1 : -N ≤ y0 + dy) (g2 : y0 + R + dy ≤ N) (g3 : -N ≤ x0 + dx) (g4 : x0 + C + dx ≤ N) (hR : 0 ≤ R) (hC : 0 ≤ C) :
    TT N (fun y x => f (y - dy) (x - dx)) = TT N f := by
  unfold TT
  have inner : ∀ y, T (-N) (2 * N) (fun x => f y (x - dx)) = T (-N) (2 * N) fun x => f y x := fun y => by
    rw [T_shift (-N) dx (2 * N) (fun x => f y x), T_wide (a := x0) (n := C.toNat) (b := -N - dx) (m := 2 * N) (h := fun x => f y x) (by omega) (by omega) (fun i hi => hf y i (by omega)), T_wide (a := x0) (n := C.toNat) (b := -N) (m := 2 * N) (h := fun x => f y x) (by omega) (by omega) (fun i hi => hf y i (by omega))]
  have e1 : T (-N) (2 * N) (fun y => T (-N) (2 * N) fun x => f (y - dy) (x - dx)) = T (-N) (2 * N) fun y => (fun y => T (-N) (2 * N) fun x => f y x) (y - dy) := T_congr fun y _ _ => inner (y - dy)
  have z : ∀ i, (i < y0 ∨ y0 + (R.toNat : Int) ≤ i) → (fun y => T (-N) (2 * N) fun x => f y x) i = 0 := fun i hi => T_zero fun x _ _ => hf i x (by omega)
  rw [e1, T_shift (-N) dy (2 * N) (fun y => T (-N) (2 * N) fun x => f y x), T_wide (a := y0) (n := R.toNat) (by omega) (by omega) z, T_wide (a := y0) (b := -N) (m := 2 * N) (n := R.toNat) (by omega) (by omega) z]

/-- A direction with what proves that its numbers have no common divisor. -/
structure Dir where
  dx : Int
  dy : Int
  a : Int
  b : Int
  pos : 0 ≤ dx
  one : a * dx + b * dy = 1

/-- Where a cell lies on its line. -/
def Dir.at (d : Dir) (y x : Int) : Int := d.a * x + d.b * y
/-- The number of a cell's line. -/
def Dir.ln (d : Dir) (y x : Int) : Int := d.dx * y - d.dy * x

theorem Dir.step (d : Dir) {y x y' x' : Int} (h : d.ln y' x' = d.ln y x) : y' = y + (d.at y' x' - d.at y x) * d.dy ∧ x' = x + (d.at y' x' - d.at y x) * d.dx := by
  have h1 := d.one
  unfold Dir.ln at h
  unfold Dir.at
  constructor <;> grind

theorem Dir.at_back (d : Dir) (y x : Int) : d.at (y - d.dy) (x - d.dx) = d.at y x - 1 := by
  have := d.one
  unfold Dir.at
  grind

theorem Dir.ln_back (d : Dir) (y x : Int) : d.ln (y - d.dy) (x - d.dx) = d.ln y x := by
  unfold Dir.ln
  grind

/-- The quotient: the sum of f on the line up to the cell. -/
def quo (N : Nat) (d : Dir) (f : Int → Int → Int) (y x : Int) : Int := TT N fun y' x' => if d.ln y' x' = d.ln y x ∧ d.at y' x' ≤ d.at y x then f y' x' else 0

theorem quo_sub {N : Nat} (d : Dir) {f : Int → Int → Int} (hf : ∀ y x : Int, (y < -(N : Int) ∨ N ≤ y ∨ x < -(N : Int) ∨ N ≤ x) → f y x = 0) (y x : Int) : quo N d f y x - quo N d f (y - d.dy) (x - d.dx) = f y x := by
  unfold quo
  rw [← TT_sub]
  have key : ∀ y' x' : Int, ((if d.ln y' x' = d.ln y x ∧ d.at y' x' ≤ d.at y x then f y' x' else 0) - (if d.ln y' x' = d.ln (y - d.dy) (x - d.dx) ∧ d.at y' x' ≤ d.at (y - d.dy) (x - d.dx) then f y' x' else 0)) = if y' = y ∧ x' = x then f y' x' else 0 := by
    intro y' x'
    rw [d.at_back, d.ln_back]
    by_cases e : d.ln y' x' = d.ln y x
    · obtain ⟨e1, e2⟩ := d.step e
      by_cases e3 : d.at y' x' = d.at y x
      · have h1 : y' = y := by rw [e1, e3]; simp
        have h2 : x' = x := by rw [e2, e3]; simp
        rw [if_pos ⟨e, by omega⟩, if_neg (by omega), if_pos ⟨h1, h2⟩, Int.sub_zero]
      · have hne : ¬ (y' = y ∧ x' = x) := by rintro ⟨rfl, rfl⟩; exact e3 rfl
        rw [if_neg hne]
        by_cases e4 : d.at y' x' ≤ d.at y x
        · rw [if_pos ⟨e, e4⟩, if_pos ⟨e, by omega⟩, Int.sub_self]
        · rw [if_neg (by omega), if_neg (by omega)]; rfl
    · have hne : ¬ (y' = y ∧ x' = x) := by rintro ⟨rfl, rfl⟩; exact e rfl
      rw [if_neg (fun h => e h.1), if_neg (fun h => e h.1), if_neg hne]; rfl
  rw [TT_congr fun y' x' _ _ _ _ => key y' x']
  by_cases h : y < -(N : Int) ∨ N ≤ y ∨ x < -(N : Int) ∨ N ≤ x
  · rw [hf y x h]
    refine (TT_congr (g := fun _ _ => 0) fun y' x' a1 a2 a3 a4 => ?_).trans (TT_zero fun _ _ => rfl)
    rw [if_neg (by omega)]
  · rw [TT_one y x (by omega) (by omega) (by omega) (by omega) fun y' x' hne => if_neg hne, if_pos ⟨rfl, rfl⟩]

/-- The quotient lies within less. -/
theorem quo_in {N : Nat} (d : Dir) {f : Int → Int → Int} {y0 x0 R C : Int} (hf : In y0 x0 R C f) (h0 : ∀ k, L N d.dx d.dy f k = 0) : In (if 0 ≤ d.dy then y0 else y0 - d.dy) x0 (R - (if 0 ≤ d.dy then d.dy else -d.dy)) (C - d.dx) (quo N d f) := by
  intro y x h
  have none : (∀ y' x', d.ln y' x' = d.ln y x → d.at y' x' ≤ d.at y x → f y' x' = 0) → quo N d f y x = 0 := fun hh => TT_zero fun y' x' => by
    by_cases e : d.ln y' x' = d.ln y x ∧ d.at y' x' ≤ d.at y x
    · rw [if_pos e]; exact hh y' x' e.1 e.2
    · rw [if_neg e]
  have all : (∀ y' x', d.ln y' x' = d.ln y x → d.at y x < d.at y' x' → f y' x' = 0) → quo N d f y x = 0 := fun hh => by
    rw [← h0 (d.ln y x)]
    unfold quo L
    refine TT_congr fun y' x' _ _ _ _ => ?_
    show _ = if d.ln y' x' = d.ln y x then f y' x' else 0
    by_cases e : d.ln y' x' = d.ln y x
    · by_cases e2 : d.at y' x' ≤ d.at y x
      · rw [if_pos ⟨e, e2⟩, if_pos e]
      · rw [if_neg (fun h => e2 h.2), if_pos e, hh y' x' e (by omega)]
    · rw [if_neg (fun h => e h.1), if_neg e]
  have neg : ∀ t n : Int, t ≤ 0 → 0 ≤ n → t * n ≤ 0 := fun t n h1 h2 => Int.mul_nonpos_of_nonpos_of_nonneg h1 h2
  have pos : ∀ t n : Int, 0 < t → 0 ≤ n → n ≤ t * n := fun t n h1 h2 => by
    have := Int.mul_le_mul_of_nonneg_right (show (1 : Int) ≤ t by omega) h2
    omega
  have hp := d.pos
  by_cases hx1 : x < x0
  · exact none fun y' x' e1 e2 => hf _ _ (by
      have := neg _ _ (show d.at y' x' - d.at y x ≤ 0 by omega) hp
      have := (d.step e1).2
      omega)
  by_cases hx2 : x0 + (C - d.dx) ≤ x
  · exact all fun y' x' e1 e2 => hf _ _ (by
      have := pos _ _ (show 0 < d.at y' x' - d.at y x by omega) hp
      have := (d.step e1).2
      omega)
  by_cases hd : 0 ≤ d.dy
  · rw [if_pos hd, if_pos hd] at h
    by_cases hy1 : y < y0
    · exact none fun y' x' e1 e2 => hf _ _ (by
        have := neg _ _ (show d.at y' x' - d.at y x ≤ 0 by omega) hd
        have := (d.step e1).1
        omega)
    · exact all fun y' x' e1 e2 => hf _ _ (by
        have := pos _ _ (show 0 < d.at y' x' - d.at y x by omega) hd
        have := (d.step e1).1
        omega)
  · rw [if_neg hd, if_neg hd] at h
    have hd' : 0 ≤ -d.dy := by omega
    have em : ∀ t : Int, t * -d.dy = -(t * d.dy) := fun t => Int.mul_neg t d.dy
    by_cases hy1 : y < y0 - d.dy
    · exact all fun y' x' e1 e2 => hf _ _ (by
        have := pos _ _ (show 0 < d.at y' x' - d.at y x by omega) hd'
        rw [em] at this
        have := (d.step e1).1
        omega)
    · exact none fun y' x' e1 e2 => hf _ _ (by
        have := neg _ _ (show d.at y' x' - d.at y x ≤ 0 by omega) hd'
        rw [em] at this
        have := (d.step e1).1
        omega)

theorem in_none {y0 x0 R C : Int} {f : Int → Int → Int} (h : In y0 x0 R C f) (hz : R ≤ 0 ∨ C ≤ 0) : ∀ y x, f y x = 0 := fun y x => h y x (by omega)

theorem L_zero {N : Nat} {ex ey : Int} {f : Int → Int → Int} (h : ∀ y x, f y x = 0) (k : Int) : L N ex ey f k = 0 := TT_zero fun y x => by
  show (if _ then f y x else 0) = 0
  rw [h]
  split <;> rfl

/-- Far lines are empty. -/
theorem L_far {N : Nat} {ex ey : Int} {f : Int → Int → Int} {k : Int} (h : (ex.natAbs + ey.natAbs) * N < k.natAbs) : L N ex ey f k = 0 := by
  refine (TT_congr (g := fun _ _ => 0) fun y x h1 h2 h3 h4 => ?_).trans (TT_zero fun _ _ => rfl)
  rw [if_neg]
  intro e
  have hy : y.natAbs ≤ N := by omega
  have hx : x.natAbs ≤ N := by omega
  have a1 : (ex * y).natAbs ≤ ex.natAbs * N := by rw [Int.natAbs_mul]; exact Nat.mul_le_mul_left _ hy
  have a2 : (ey * x).natAbs ≤ ey.natAbs * N := by rw [Int.natAbs_mul]; exact Nat.mul_le_mul_left _ hx
  rw [Nat.add_mul] at h
  omega

theorem quo_sums {N : Nat} (d : Dir) {f : Int → Int → Int} {y0 x0 R C : Int} (hf : In y0 x0 R C f) (r1 : -(N : Int) ≤ y0) (r2 : y0 + R ≤ N) (r3 : -(N : Int) ≤ x0) (r4 : x0 + C ≤ N) (h0 : ∀ k, L N d.dx d.dy f k = 0) {ex ey : Int} (hs : ex * d.dy - ey * d.dx ≠ 0) (he : ∀ k, L N ex ey f k = 0) :
    ∀ k, L N ex ey (quo N d f) k = 0 := by
  have hg := quo_in d hf h0
  have hp := d.pos
  by_cases hz : R - (if 0 ≤ d.dy then d.dy else -d.dy) ≤ 0 ∨ C - d.dx ≤ 0
  · exact L_zero (in_none hg hz)
  have out : ∀ y x : Int, (y < -(N : Int) ∨ N ≤ y ∨ x < -(N : Int) ∨ N ≤ x) → f y x = 0 := fun y x h => hf y x (by omega)
  have one : ∀ k, L N ex ey (quo N d f) k = L N ex ey (quo N d f) (k - (ex * d.dy - ey * d.dx)) := by
    intro k
    have e1 : L N ex ey f k = TT N fun y x => (if ex * y - ey * x = k then quo N d f y x else 0) - (fun y x => if ex * y - ey * x = k - (ex * d.dy - ey * d.dx) then quo N d f y x else 0) (y - d.dy) (x - d.dx) := by
      unfold L
      refine TT_congr fun y x _ _ _ _ => ?_
      rw [← quo_sub (N := N) d out y x]
      have e : (ex * (y - d.dy) - ey * (x - d.dx) = k - (ex * d.dy - ey * d.dx)) ↔ ex * y - ey * x = k := by
        rw [Int.mul_sub, Int.mul_sub]
        omega
      by_cases h : ex * y - ey * x = k
      · rw [if_pos h, if_pos h]
        show _ = _ - (if _ then _ else _)
        rw [if_pos (e.2 h)]
      · rw [if_neg h, if_neg h]
        show _ = _ - (if _ then _ else _)
        rw [if_neg fun x => h (e.1 x)]
        rfl
    have hB : In (if 0 ≤ d.dy then y0 else y0 - d.dy) x0 (R - (if 0 ≤ d.dy then d.dy else -d.dy)) (C - d.dx) fun y x => if ex * y - ey * x = k - (ex * d.dy - ey * d.dx) then quo N d f y x else 0 := fun y x h => by
      show (if _ then quo N d f y x else 0) = 0
      rw [hg y x h]
      split <;> rfl
    rw [he k, TT_sub, TT_shift hB (by split <;> omega) (by split at hz <;> rename_i hd <;> simp only [hd, if_true, if_false, ↓reduceIte] <;> omega) (by omega) (by omega) (by split <;> omega) (by split at hz <;> rename_i hd <;> simp only [hd, if_true, if_false, ↓reduceIte] <;> omega) (by omega) (by omega) (by omega) (by omega)] at e1
    unfold L
    omega
  generalize ex * d.dy - ey * d.dx = s at hs one
  have many : ∀ (n : Nat) (k : Int), L N ex ey (quo N d f) k = L N ex ey (quo N d f) (k - n * s) := by
    intro n
    induction n with
    | zero => intro k; simp
    | succ n ih =>
      intro k
      rw [ih k, one (k - n * s)]
      congr 1
      rw [show ((n + 1 : Nat) : Int) = (n : Int) + 1 by omega, Int.add_mul, Int.one_mul]
      omega
  intro k
  rw [many ((ex.natAbs + ey.natAbs) * N + k.natAbs + 1) k]
  apply L_far
  generalize (ex.natAbs + ey.natAbs) * N = K
  have h1 : (((K + k.natAbs + 1 : Nat) : Int) * s).natAbs = (K + k.natAbs + 1) * s.natAbs := by rw [Int.natAbs_mul]; rfl
  have h2 : K + k.natAbs + 1 ≤ (K + k.natAbs + 1) * s.natAbs := Nat.le_mul_of_pos_right _ (by omega)
  omega

def up (l : List Dir) : Int := (l.map fun d => if 0 ≤ d.dy then d.dy else -d.dy).sum
def over (l : List Dir) : Int := (l.map fun d => d.dx).sum

/-- WHAT IS SMALLER THAN THE GHOST IS DETERMINED: a grid with no sum in any of the directions, too small for them, is 0. -/
theorem small_zero (N : Nat) : ∀ (l : List Dir) (f : Int → Int → Int) (y0 x0 R C : Int), In y0 x0 R C f → -(N : Int) ≤ y0 → y0 + R ≤ N → -(N : Int) ≤ x0 → x0 + C ≤ N → (∀ d ∈ l, ∀ k, L N d.dx d.dy f k = 0) →
    l.Pairwise (fun d e => e.dx * d.dy - e.dy * d.dx ≠ 0) → (R ≤ up l ∨ C ≤ over l) → ∀ y x, f y x = 0
  | [], f, y0, x0, R, C, hf, _, _, _, _, _, _, hz => in_none hf (by simpa [up, over] using hz)
  | d :: l, f, y0, x0, R, C, hf, r1, r2, r3, r4, h0, hp, hz => by
    have h0d := h0 d List.mem_cons_self
    have hpos := d.pos
    rw [List.pairwise_cons] at hp
    have hg := quo_in d hf h0d
    have hz' : R - (if 0 ≤ d.dy then d.dy else -d.dy) ≤ up l ∨ C - d.dx ≤ over l := by
      simp only [up, over, List.map_cons, List.sum_cons] at hz ⊢
      omega
    have z := small_zero N l (quo N d f) _ _ _ _ hg (by split <;> omega) (by split <;> omega) r3 (by omega) (fun e he k => quo_sums d hf r1 r2 r3 r4 h0d (hp.1 e he) (h0 e (List.mem_cons_of_mem _ he)) k) hp.2 hz'
    intro y x
    rw [← quo_sub (N := N) d (fun y x h => hf y x (by omega)) y x, z, z]
    rfl
end Go.Katz
/-! PURE: two images with the same numbers of black cells on all lines: their difference has no sum. c: any count over numbers. -/
namespace Go.Katz
set_option linter.unusedSimpArgs false

section
variable {c : (Nat → Bool) → Nat → Nat} (c0 : ∀ p, c p 0 = 0) (c1 : ∀ p n, c p (n + 1) = c p n + if p n = true then 1 else 0)
include c0 c1

theorem c_add (p : Nat → Bool) (b : Nat) : ∀ n, c p (b + n) = c p b + c (fun x => p (b + x)) n
  | 0 => by rw [c0]; rfl
  | n + 1 => by
    rw [← Nat.add_assoc, c1, c1, c_add p b n]
    omega

theorem T_c (p : Nat → Bool) : ∀ n : Nat, T 0 n (fun i => if p i.toNat = true then 1 else 0) = (c p n : Nat)
  | 0 => by rw [c0]; rfl
  | n + 1 => by
    show T 0 n _ + _ = _
    rw [T_c p n, c1]
    dsimp only
    rw [show ((0 : Int) + n).toNat = n by omega]
    split <;> omega

theorem T_rows (p : Nat → Bool) (C : Nat) : ∀ R : Nat, T 0 R (fun y => T 0 C fun x => if p (C * y.toNat + x.toNat) = true then 1 else 0) = (c p (C * R) : Nat)
  | 0 => by rw [Nat.mul_zero, c0]; rfl
  | R + 1 => by
    show T 0 R _ + T 0 C _ = _
    rw [T_rows p C R, Nat.mul_succ, c_add c0 c1]
    rw [show ((0 : Int) + R).toNat = R by omega, T_c c0 c1 (fun x => p (C * R + x)) C]
    omega

/-- The difference of two images. -/
def dif (R C : Nat) (f g : Nat → Nat → Int) (y x : Int) : Int := if 0 ≤ y ∧ y < R ∧ 0 ≤ x ∧ x < C then f y.toNat x.toNat - g y.toNat x.toNat else 0

omit c0 c1 in
theorem dif_in (R C : Nat) (f g : Nat → Nat → Int) : In 0 0 R C (dif R C f g) := fun y x h => by
  unfold dif
  rw [if_neg (by omega)]

theorem L_dif {N R C : Nat} (hR : R ≤ N) (hC : C ≤ N) {f g : Nat → Nat → Int} (hf : ∀ y x, y < R → x < C → f y x = 0 ∨ f y x = 1) (hg : ∀ y x, y < R → x < C → g y x = 0 ∨ g y x = 1) (dx dy m k : Int) :
    L N dx dy (dif R C f g) k = (c (fun i => f (i / C) (i % C) == 1 && dx * (i / C : Nat) - dy * (i % C : Nat) - m == k - m) (C * R) : Nat) - (c (fun i => g (i / C) (i % C) == 1 && dx * (i / C : Nat) - dy * (i % C : Nat) - m == k - m) (C * R) : Nat) := by
  have box : L N dx dy (dif R C f g) k = T 0 R fun y => T 0 C fun x => if dx * y - dy * x = k then dif R C f g y x else 0 := by
    unfold L TT
    have z : ∀ y x : Int, (y < 0 ∨ (R : Int) ≤ y ∨ x < 0 ∨ (C : Int) ≤ x) → (if dx * y - dy * x = k then dif R C f g y x else 0) = 0 := fun y x h => by
      rw [dif_in R C f g y x (by omega)]
      split <;> rfl
    rw [T_wide (a := 0) (n := R) (by omega) (by omega) fun i hi => T_zero fun x _ _ => z i x (by omega)]
    refine T_congr fun y _ _ => ?_
    exact T_wide (a := 0) (n := C) (by omega) (by omega) fun i hi => z y i (by omega)
  have cell : ∀ (h : Nat → Nat → Int), (∀ y x, y < R → x < C → h y x = 0 ∨ h y x = 1) → (c (fun i => h (i / C) (i % C) == 1 && dx * (i / C : Nat) - dy * (i % C : Nat) - m == k - m) (C * R) : Nat) = T 0 R fun y => T 0 C fun x => if dx * y - dy * x = k then h y.toNat x.toNat else 0 := by
    intro h hh
    rw [← T_rows c0 c1]
    refine T_congr fun y y1 y2 => T_congr fun x x1 x2 => ?_
    have e1 : (C * y.toNat + x.toNat) / C = y.toNat := by rw [Nat.mul_add_div (by omega), Nat.div_eq_of_lt (by omega), Nat.add_zero]
    have e2 : (C * y.toNat + x.toNat) % C = x.toNat := by rw [Nat.mul_add_mod, Nat.mod_eq_of_lt (by omega)]
    rw [e1, e2, show ((y.toNat : Nat) : Int) = y by omega, show ((x.toNat : Nat) : Int) = x by omega]
    by_cases e : dx * y - dy * x = k
    · have e3 : (dx * y - dy * x - m == k - m) = true := by rw [e]; simp
      rw [e3, Bool.and_true, if_pos e]
      rcases hh y.toNat x.toNat (by omega) (by omega) with h0 | h0 <;> rw [h0] <;> rfl
    · have e3 : (dx * y - dy * x - m == k - m) = false := by
        rw [beq_eq_false_iff_ne]
        omega
      rw [e3, Bool.and_false, if_neg e]
      rfl
  rw [box, cell f hf, cell g hg, ← T_sub]
  refine T_congr fun y y1 y2 => ?_
  rw [← T_sub]
  refine T_congr fun x x1 x2 => ?_
  by_cases e : dx * y - dy * x = k
  · rw [if_pos e, if_pos e, if_pos e]
    unfold dif
    rw [if_pos (by omega)]
  · rw [if_neg e, if_neg e, if_neg e]
    rfl
end
end Go.Katz
/-! PURE: images of a small size with the same numbers of black cells on all lines in some directions are equal. -/
namespace Go.Katz

/-- A valid direction. -/
def okD (dx dy : Int) : Bool := decide ((0 ≤ dx ∧ dx ≤ 3) ∧ (-3 ≤ dy ∧ dy ≤ 3)) && (Nat.gcd dx.natAbs dy.natAbs == 1) && (decide (0 < dx) || dy == 1)

theorem okD_range {dx dy : Int} (h : okD dx dy = true) : (0 ≤ dx ∧ dx ≤ 3) ∧ (-3 ≤ dy ∧ dy ≤ 3) := by
  unfold okD at h
  simp only [Bool.and_eq_true, decide_eq_true_eq] at h
  exact h.1.1

theorem okD_fin {dx dy : Int} (h : okD dx dy = true) : ∃ (i : Fin 4) (j : Fin 7), dx = (i.val : Int) ∧ dy = (j.val : Int) - 3 := by
  obtain ⟨⟨h1, h2⟩, h3, h4⟩ := okD_range h
  exact ⟨⟨dx.toNat, by omega⟩, ⟨(dy + 3).toNat, by omega⟩, by show dx = ((dx.toNat : Nat) : Int); omega, by show dy = (((dy + 3).toNat : Nat) : Int) - 3; omega⟩

theorem bez_all : ∀ (i : Fin 4) (j : Fin 7), okD (i.val : Int) ((j.val : Int) - 3) = true → ∃ (a : Fin 7) (b : Fin 7), ((a.val : Int) - 3) * (i.val : Int) + ((b.val : Int) - 3) * ((j.val : Int) - 3) = 1 := by decide

theorem apart_all : ∀ (i k : Fin 4) (j l : Fin 7), okD (i.val : Int) ((j.val : Int) - 3) = true → okD (k.val : Int) ((l.val : Int) - 3) = true → (k.val : Int) * ((j.val : Int) - 3) - ((l.val : Int) - 3) * (i.val : Int) = 0 → i = k ∧ j = l := by decide

theorem okD_dir {dx dy : Int} (h : okD dx dy = true) : ∃ d : Dir, d.dx = dx ∧ d.dy = dy := by
  obtain ⟨i, j, rfl, rfl⟩ := okD_fin h
  obtain ⟨a, b, e⟩ := bez_all i j h
  exact ⟨⟨_, _, _, _, by omega, e⟩, rfl, rfl⟩

theorem okD_apart {dx dy ex ey : Int} (h : okD dx dy = true) (k : okD ex ey = true) (hz : ex * dy - ey * dx = 0) : dx = ex ∧ dy = ey := by
  obtain ⟨i, j, rfl, rfl⟩ := okD_fin h
  obtain ⟨i', j', rfl, rfl⟩ := okD_fin k
  obtain ⟨rfl, rfl⟩ := apart_all i i' j j' h k hz
  exact ⟨rfl, rfl⟩

theorem dirs_of : ∀ l : List (Int × Int), (∀ p ∈ l, okD p.1 p.2 = true) → ∃ ds : List Dir, ds.map (fun d => (d.dx, d.dy)) = l
  | [], _ => ⟨[], rfl⟩
  | p :: l, h => by
    obtain ⟨d, e1, e2⟩ := okD_dir (h p List.mem_cons_self)
    obtain ⟨ds, e3⟩ := dirs_of l fun q hq => h q (List.mem_cons_of_mem _ hq)
    exact ⟨d :: ds, by rw [List.map_cons, e3, e1, e2]⟩

section
variable {c : (Nat → Bool) → Nat → Nat} (c0 : ∀ p, c p 0 = 0) (c1 : ∀ p n, c p (n + 1) = c p n + if p n = true then 1 else 0)

/-- EQUAL ON ALL LINES, SMALLER THAN THE GHOST: EQUAL. m: what is taken from a line's number. -/
theorem determined (c0 : ∀ p, c p 0 = 0) (c1 : ∀ p n, c p (n + 1) = c p n + if p n = true then 1 else 0) {R C : Nat} {f g : Nat → Nat → Int} (hf : ∀ y x, y < R → x < C → f y x = 0 ∨ f y x = 1) (hg : ∀ y x, y < R → x < C → g y x = 0 ∨ g y x = 1) (l : List (Int × Int)) (m : Int × Int → Int)
    (hok : ∀ p ∈ l, okD p.1 p.2 = true) (hd : l.Nodup) (hs : ∀ p ∈ l, ∀ n : Int, c (fun i => f (i / C) (i % C) == 1 && p.1 * (i / C : Nat) - p.2 * (i % C : Nat) - m p == n) (C * R) = c (fun i => g (i / C) (i % C) == 1 && p.1 * (i / C : Nat) - p.2 * (i % C : Nat) - m p == n) (C * R))
    (hz : (R : Int) < 1 + (l.map fun p => if 0 ≤ p.2 then p.2 else -p.2).sum ∨ (C : Int) < 1 + (l.map fun p => p.1).sum) : ∀ y x, y < R → x < C → f y x = g y x := by
  obtain ⟨ds, rfl⟩ := dirs_of l hok
  have z := small_zero (R + C) ds (dif R C f g) 0 0 R C (dif_in R C f g) (by omega) (by omega) (by omega) (by omega) (fun d hd k => ?_) ?_ ?_
  · intro y x hy hx
    have := z y x
    unfold dif at this
    rw [if_pos (by omega)] at this
    simp only [Int.toNat_natCast] at this
    omega
  · rw [L_dif c0 c1 (by omega) (by omega) hf hg d.dx d.dy (m (d.dx, d.dy)) k]
    have := hs (d.dx, d.dy) (List.mem_map.2 ⟨d, hd, rfl⟩) (k - m (d.dx, d.dy))
    simp only at this
    rw [this]
    omega
  · have h1 := List.pairwise_map.1 hd
    have hall : ∀ d ∈ ds, okD d.dx d.dy = true := fun d hd => hok (d.dx, d.dy) (List.mem_map.2 ⟨d, hd, rfl⟩)
    refine List.Pairwise.imp_of_mem (fun {d e} hd he hne hz => hne ?_) h1
    obtain ⟨e1, e2⟩ := okD_apart (hall d hd) (hall e he) hz
    exact Prod.ext e1 e2
  · simp only [up, over, List.map_map, Function.comp_def] at hz ⊢
    omega
end
end Go.Katz
