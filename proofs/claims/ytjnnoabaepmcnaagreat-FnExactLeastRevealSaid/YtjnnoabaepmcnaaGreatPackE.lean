/-
  Texts of this claim, one behind the other: Key, Entry, LMap, CountL, LEnt, Ov.
-/
import Derived.Test.YtjnnoabaepmcnaaGreatPackC
import Derived.DeepKeys5
import Derived.Maps.OwnSet
import Derived.Maps.RangeWalk
import Derived.WideKeyEntry
import Derived.Test.YtjnnoabaepmcnaaGreatPackA
/-
  The keys of the program's map of lines: a direction and a number.
-/
namespace Go.Proofs.YtjnnoabaepmcnaaGreat
open Go.RowKit
set_option maxRecDepth 100000

/-- A line: its direction and its number. -/
structure Key where
  x : Int
  y : Int
  n : Int
instance : DecidableEq Key := fun a b =>
  if h : a.x = b.x ∧ a.y = b.y ∧ a.n = b.n then isTrue (by obtain ⟨x, y, n⟩ := a; obtain ⟨x', y', n'⟩ := b; simp only at h; obtain ⟨rfl, rfl, rfl⟩ := h; rfl)
  else isFalse fun e => h (by rw [e]; exact ⟨rfl, rfl, rfl⟩)
def Key.wf (k : Key) : Prop := (Lit.int .i64 k.x).wf = true ∧ (Lit.int .i64 k.y).wf = true ∧ (Lit.int .i64 k.n).wf = true
def keyV (k : Key) : Value := .agg #[.int .i64 k.x, .int .i64 k.y, .int .i64 k.n]
theorem Tryz.laidOut : laidOutB Tryz.prog = true := by kernel_rfl
theorem Tryz.keyTy : Tryz.prog.keyType 103 = true := by kernel_rfl
theorem Tryz.cellsKey : Tryz.prog.cellsOf 103 = 3 := by kernel_rfl
theorem Tryz.cellsDir : Tryz.prog.cellsOf 70 = 2 := by kernel_rfl
theorem Tryz.cellsInt : Tryz.prog.cellsOf 3 = 1 := by kernel_rfl
theorem Tryz.keyLaw : Maps.Keyed Tryz.prog 103 := Maps.Keyed.of_law (deep_law_gate Tryz.laidOut (of_decide_eq_true (by kernel_rfl)) (of_decide_eq_true (by kernel_rfl)) Tryz.keyTy (by rw [Tryz.underlying103]))
theorem intLits (d : Nat) (v : Value) (L : List Lit) (h : Tryz.prog.keyLits (d + 1) 3 [v] = some L) : ∃ x, v = .int .i64 x ∧ (Lit.int .i64 x).wf = true := by
  unfold Program.keyLits at h
  rw [Tryz.underlying3] at h
  cases v <;> simp at h
  obtain ⟨⟨rfl, hw⟩, -⟩ := h
  exact ⟨_, rfl, hw⟩
theorem intLits_mk (d : Nat) (x : Int) (h : (Lit.int .i64 x).wf = true) : Tryz.prog.keyLits (d + 1) 3 [.int .i64 x] = some [.int .i64 x] := by
  unfold Program.keyLits
  rw [Tryz.underlying3]
  simp only
  rw [if_pos ⟨trivial, h⟩]
theorem dirLits_mk (d : Nat) (x y : Int) (h1 : (Lit.int .i64 x).wf = true) (h2 : (Lit.int .i64 y).wf = true) : Tryz.prog.keyLits (d + 2) 70 [.int .i64 x, .int .i64 y] = some [.int .i64 x, .int .i64 y] := by
  unfold Program.keyLits
  rw [Tryz.underlying70]
  simp only
  rw [if_pos ⟨by rw [Tryz.cellsDir]; rfl, by decide +kernel⟩]
  simp only [Tryz.cellsInt, List.mapM_cons, List.mapM_nil, List.drop_zero, List.take_succ_cons, List.take_zero, List.drop_succ_cons, bind, Option.bind, pure, Option.map, intLits_mk d x h1, intLits_mk d y h2]
  rfl
theorem list2 {l : List Value} (h : l.length = 2) : ∃ a b, l = [a, b] := by
  match l, h with
  | [a, b], _ => exact ⟨a, b, rfl⟩
theorem list3 {l : List Value} (h : l.length = 3) : ∃ a b c, l = [a, b, c] := by
  match l, h with
  | [a, b, c], _ => exact ⟨a, b, c, rfl⟩
theorem dirLits (d : Nat) (c : List Value) (L : List Lit) (h : Tryz.prog.keyLits (d + 2) 70 c = some L) : ∃ x y, c = [.int .i64 x, .int .i64 y] ∧ (Lit.int .i64 x).wf = true ∧ (Lit.int .i64 y).wf = true := by
  unfold Program.keyLits at h
  rw [Tryz.underlying70] at h
  simp only at h
  split at h
  · rename_i hc
    obtain ⟨a, b, rfl⟩ := list2 (hc.1.trans Tryz.cellsDir)
    simp only [Tryz.cellsInt, List.mapM_cons, List.mapM_nil, List.drop_zero, List.take_succ_cons, List.take_zero, List.drop_succ_cons, bind, Option.bind, pure, Option.map] at h
    cases ha : Tryz.prog.keyLits (d + 1) 3 [a] with
    | none => rw [ha] at h; simp at h
    | some la =>
      obtain ⟨x, rfl, hx⟩ := intLits d a la ha
      cases hb : Tryz.prog.keyLits (d + 1) 3 [b] with
      | none => rw [ha] at h; simp [hb] at h
      | some lb =>
        obtain ⟨y, rfl, hy⟩ := intLits d b lb hb
        exact ⟨x, y, rfl, hx, hy⟩
  · cases h
theorem key_inv {v : Value} {l : Lit} (h : keyOf Tryz.prog 103 v = some l) : ∃ k : Key, v = keyV k ∧ k.wf := by
  obtain ⟨xs, L, rfl, h1, -⟩ := keyOf_top (by rw [Tryz.underlying103]) h
  have hs : ∃ d, Tryz.prog.types.size + 1 = d + 3 := ⟨Tryz.prog.types.size - 2, by have : 3 ≤ Tryz.prog.types.size := of_decide_eq_true (by kernel_rfl); omega⟩
  obtain ⟨d, hd⟩ := hs
  rw [hd] at h1
  unfold Program.keyLits at h1
  rw [Tryz.underlying103] at h1
  simp only at h1
  split at h1
  · rename_i hc
    obtain ⟨a, b, c, e⟩ := list3 (hc.1.trans Tryz.cellsKey)
    rw [e] at h1
    simp only [Tryz.cellsInt, Tryz.cellsDir, List.mapM_cons, List.mapM_nil, List.drop_zero, List.take_succ_cons, List.take_zero, List.drop_succ_cons, bind, Option.bind, pure, Option.map] at h1
    cases ha : Tryz.prog.keyLits (d + 2) 70 [a, b] with
    | none => rw [ha] at h1; simp at h1
    | some la =>
      obtain ⟨x, y, hxy, hx, hy⟩ := dirLits d _ la ha
      simp only [List.cons.injEq, and_true] at hxy
      obtain ⟨rfl, rfl⟩ := hxy
      cases hb : Tryz.prog.keyLits (d + 2) 3 [c] with
      | none => rw [ha] at h1; simp [hb] at h1
      | some lb =>
        obtain ⟨n, rfl, hn⟩ := intLits (d + 1) c lb hb
        exact ⟨⟨x, y, n⟩, by unfold keyV; congr 1; exact Array.toList_inj.1 e, hx, hy, hn⟩
  · cases h1
theorem key_mk {k : Key} (h : k.wf) : ∃ l, keyOf Tryz.prog 103 (keyV k) = some l := by
  obtain ⟨x, y, n⟩ := k
  obtain ⟨h1, h2, h3⟩ := h
  have hs : ∃ d, Tryz.prog.types.size + 1 = d + 3 := ⟨Tryz.prog.types.size - 2, by have : 3 ≤ Tryz.prog.types.size := of_decide_eq_true (by kernel_rfl); omega⟩
  obtain ⟨d, hd⟩ := hs
  have hf : (keyV ⟨x, y, n⟩).formed Tryz.prog 103 = true := by
    simp [keyV, Value.formed, Tryz.underlying103, Tryz.cellsKey]
  have hL : Tryz.prog.keyLits (Tryz.prog.types.size + 1) 103 (keyV ⟨x, y, n⟩).cells.toList = some [.int .i64 x, .int .i64 y, .int .i64 n] := by
    rw [hd]
    show Tryz.prog.keyLits (d + 2 + 1) 103 [.int .i64 x, .int .i64 y, .int .i64 n] = _
    unfold Program.keyLits
    rw [Tryz.underlying103]
    simp only
    rw [if_pos ⟨by rw [Tryz.cellsKey]; rfl, by decide +kernel⟩]
    simp only [Tryz.cellsInt, Tryz.cellsDir, List.mapM_cons, List.mapM_nil, List.drop_zero, List.take_succ_cons, List.take_zero, List.drop_succ_cons, bind, Option.bind, pure, Option.map, dirLits_mk d x y h1 h2, intLits_mk (d + 1) n h3]
    rfl
  refine ⟨.string (keyBytes [.int .i64 x, .int .i64 y, .int .i64 n]), ?_⟩
  unfold keyOf
  rw [Tryz.underlying103]
  simp only [Tryz.keyTy, hf, Bool.and_self, if_true, hL, Option.map_some]
/-- What a key reads as. -/
noncomputable def kl (k : Key) : Lit := (keyOf Tryz.prog 103 (keyV k)).getD (.bool false)
theorem kl_of {k : Key} (h : k.wf) : keyOf Tryz.prog 103 (keyV k) = some (kl k) := by
  obtain ⟨l, hl⟩ := key_mk h
  unfold kl; rw [hl]; rfl
theorem keyV_inj {k l : Key} (h : keyV k = keyV l) : k = l := by
  obtain ⟨x, y, n⟩ := k
  obtain ⟨x', y', n'⟩ := l
  simp [keyV] at h
  obtain ⟨rfl, rfl, rfl⟩ := h; rfl
theorem kl_inj {k l : Key} (hk : k.wf) (hl : l.wf) (h : kl k = kl l) : k = l :=
  keyV_inj (Tryz.keyLaw.inj (kl_of hk) (h ▸ kl_of hl))
theorem kl_key {k : Key} (hk : k.wf) : WideAt.IsKeyLit (kl k) := Tryz.keyLaw.key (kl_of hk)
end Go.Proofs.YtjnnoabaepmcnaaGreat
/-
  'm[k] += v': the map's entry, met before or behind the look-up.
-/
namespace Go.Proofs.YtjnnoabaepmcnaaGreat
open Go.RowKit Go.Maps
open Go.ChangeMaps (setBlock)
open Go.WideElems (Fit)

theorem push_last (es : Array MapEntry) (e : MapEntry) (f : MapEntry → MapEntry) : (es.push e).modify es.size f = es.push (f e) := by
  apply Array.ext'
  rw [Array.toList_modify, Array.toList_push, Array.toList_push, ← Array.length_toList, WideElems.modify_last]
theorem modify_same (es : Array MapEntry) (j : Nat) (e0 : MapEntry) (f : MapEntry → MapEntry) (h : es[j]? = some e0) (hf : f e0 = e0) : es.modify j f = es := by
  apply Array.ext'
  rw [Array.toList_modify, ChangeMaps.modify_eq_set _ _ _ _ (by simpa using h), hf]
  exact WideElems.set_self _ _ _ (by simpa using h)

section
variable {P : Program} {t k e : TypeId} {b : Nat}
theorem find_no (K : Keyed P k) {x : Value} {lx : Lit} (hx : keyOf P k x = some lx) {es : List MapEntry} (hes : ∀ e ∈ es, ∃ l, keyOf P k e.key = some l) (h : ∀ e ∈ es, e.key ≠ x) (w : World) : (Instr.findKey k x es).run P w = .ok none w := by
  rcases K.find w hx es hes with ⟨h1, _⟩ | ⟨j, e, _, h2, h3⟩
  · exact h1
  · exact absurd h3 (h e (List.mem_of_getElem? h2))
theorem find_yes (K : Keyed P k) {x : Value} {lx : Lit} (hx : keyOf P k x = some lx) {es : List MapEntry} (hes : ∀ e ∈ es, ∃ l, keyOf P k e.key = some l) (hp : es.Pairwise fun x y => x.key ≠ y.key) {j : Nat} {e0 : MapEntry} (hj : es[j]? = some e0) (he : e0.key = x) (w : World) :
    (Instr.findKey k x es).run P w = .ok (some (j, e0.val)) w := by
  rcases K.find w hx es hes with ⟨_, h2⟩ | ⟨i, e, h1, h2, h3⟩
  · exact absurd he (h2 e0 (List.mem_of_getElem? hj))
  · have hij : i = j := by
      obtain ⟨hi, hie⟩ := List.getElem?_eq_some_iff.1 h2
      obtain ⟨hj', hje⟩ := List.getElem?_eq_some_iff.1 hj
      rcases Nat.lt_trichotomy i j with h | h | h
      · exact absurd (by rw [hie, hje, h3, he]) (List.pairwise_iff_getElem.1 hp i j hi hj' h)
      · exact h
      · exact absurd (by rw [hie, hje, h3, he]) (List.pairwise_iff_getElem.1 hp j i hj' hi h)
    subst hij
    rw [hj] at h2
    obtain rfl := Option.some.inj h2
    exact h1

/-- The entry at a key is made or found; the look-up yields the same before and behind it; the store behind it is a store at the key. -/
theorem entry_all {H : Type} {R : Value → Option (DataW H × List MemPlace)} {es : Array MapEntry} {clock : Nat} (K : Keyed P k) (ht : P.underlying t = some (.map k e)) {z : Value} (hz : ∀ u : World, (zeroValue e).run P u = .ok z u) (F : Fit P k R es clock)
    {key : Value} {lx : Lit} (hkey : keyOf P k key = some lx) :
    ∃ (v0 : Value) (st : Nat) (es1 : Array MapEntry) (clock1 : Nat),
      (∀ w : World, w.heap[b]? = some (.map es clock) → (Instr.mapEntry t (.map (some b)) key).run P w = .ok (.tuple #[v0, goInt st]) (setBlock w b (.map es1 clock1))) ∧
      (∀ w : World, w.heap[b]? = some (.map es1 clock1) → (Instr.mapEntry t (.map (some b)) key).run P w = .ok (.tuple #[v0, goInt st]) (setBlock w b (.map es1 clock1))) ∧
      (∀ w : World, w.heap[b]? = some (.map es clock) → (Instr.lookup t (.map (some b)) key false).run P w = .ok v0 w) ∧
      (∀ w : World, w.heap[b]? = some (.map es1 clock1) → (Instr.lookup t (.map (some b)) key false).run P w = .ok v0 w) ∧
      ∀ val : Value, ∃ es' clock', (∀ w : World, w.heap[b]? = some (.map es1 clock1) → (Instr.entryStore t (.map (some b)) (goInt st) val).run P w = .ok () (setBlock w b (.map es' clock'))) ∧
        ∀ w : World, w.heap[b]? = some (.map es clock) → (Instr.mapUpdate t (.map (some b)) key val).run P w = .ok () (setBlock w b (.map es' clock')) := by
  obtain ⟨s1, s2, s3⟩ := F.stamped
  have hpw : es.toList.Pairwise fun x y => x.key ≠ y.key := by have := s3; unfold List.Nodup at this; rw [List.pairwise_map] at this; exact this
  by_cases hin : ∃ (j : Nat) (e0 : MapEntry), es.toList[j]? = some e0 ∧ e0.key = key
  · obtain ⟨j, e0, h2, h3⟩ := hin
    have hf := fun w => find_yes K hkey F.keys hpw h2 h3 w
    have hj : es[j]? = some e0 := by simpa using h2
    have hsame : es.modify j (fun e => { e with key := key }) = es := modify_same es j e0 _ hj (by rw [← h3])
    have hr : ∀ w : World, w.heap[b]? = some (.map es clock) → (Instr.mapEntry t (.map (some b)) key).run P w = .ok (.tuple #[e0.val, goInt e0.born]) (setBlock w b (.map es clock)) := fun w hb => by
      simp [Instr.mapEntry, run_underlying ht, MapKept.run_getObj_map hb, K.check w false hkey, hf w, hj, h3, K.stays w hkey, hsame, MapKept.run_setObj_map _ hb, Result.andThen, setBlock]
    have hl : ∀ w : World, w.heap[b]? = some (.map es clock) → (Instr.lookup t (.map (some b)) key false).run P w = .ok e0.val w := fun w hb => by
      simp [Instr.lookup, run_underlying ht, MapKept.run_getObj_map hb, K.check w _ hkey, hf w, Result.andThen]
    refine ⟨e0.val, e0.born, es, clock, hr, hr, hl, hl, fun val => ⟨es.modify j (fun e' => { e' with key := key, val := val }), clock, fun w hb => ?_, fun w hb => ?_⟩⟩
    · have hidx : es.findIdx? (fun e => ((e.born : Nat) : Int) == ((e0.born : Nat) : Int)) = some j := by
        rw [WideElems.findIdx_arr]; exact WideElems.findIdx_born s2 h2
      have hmod : es.modify j (fun e => { e with val := val }) = es.modify j (fun e' => { e' with key := key, val := val }) := by
        apply Array.ext'
        rw [Array.toList_modify, Array.toList_modify, ChangeMaps.modify_eq_set _ _ _ _ h2, ChangeMaps.modify_eq_set _ _ _ _ h2, ← h3]
      simp [Instr.entryStore, MapKept.run_getObj_map hb, asInt, asIntOf, goInt, hidx, hmod, MapKept.run_setObj_map _ hb, Result.andThen, setBlock]
    · simp [Instr.mapUpdate, run_underlying ht, MapKept.run_getObj_map hb, K.check w false hkey, hf w, hj, h3, K.stays w hkey, MapKept.run_setObj_map _ hb, Result.andThen, setBlock]
  · have hno : ∀ x ∈ es.toList, x.key ≠ key := fun x hx e1 => by
      obtain ⟨j, hj⟩ := List.getElem?_of_mem hx
      exact hin ⟨j, x, hj, e1⟩
    have hf := fun w => find_no K hkey F.keys hno w
    have hk1 : ∀ x ∈ (es.push ⟨key, z, clock⟩).toList, ∃ l, keyOf P k x.key = some l := fun x hx => by
      rw [Array.toList_push, List.mem_append, List.mem_singleton] at hx
      rcases hx with hx | rfl
      · exact F.keys x hx
      · exact ⟨_, hkey⟩
    have hp1 : (es.push ⟨key, z, clock⟩).toList.Pairwise fun x y => x.key ≠ y.key := by
      rw [Array.toList_push]
      refine List.pairwise_append.2 ⟨hpw, List.pairwise_singleton _ _, fun x hx y hy => ?_⟩
      rw [List.mem_singleton] at hy
      subst hy
      exact hno x hx
    have hlast : (es.push ⟨key, z, clock⟩).toList[es.size]? = some ⟨key, z, clock⟩ := by simp
    have hf1 := fun w => find_yes K hkey hk1 hp1 hlast rfl w
    have hj1 : (es.push ⟨key, z, clock⟩)[es.size]? = some ⟨key, z, clock⟩ := by simp
    have hsame : (es.push ⟨key, z, clock⟩).modify es.size (fun e => { e with key := key }) = es.push ⟨key, z, clock⟩ := by rw [push_last]
    refine ⟨z, clock, es.push ⟨key, z, clock⟩, clock + 1, fun w hb => ?_, fun w hb => ?_, fun w hb => ?_, fun w hb => ?_, fun val => ⟨es.push ⟨key, val, clock⟩, clock + 1, fun w hb => ?_, fun w hb => ?_⟩⟩
    · simp [Instr.mapEntry, run_underlying ht, MapKept.run_getObj_map hb, K.check w false hkey, hf w, hz, MapKept.run_setObj_map _ hb, Result.andThen, setBlock]
    · have := hf1 w
      simp only [Array.toList_push] at this
      simp [Instr.mapEntry, run_underlying ht, MapKept.run_getObj_map hb, K.check w false hkey, this, K.stays w hkey, hsame, MapKept.run_setObj_map _ hb, Result.andThen, setBlock]
    · simp [Instr.lookup, run_underlying ht, MapKept.run_getObj_map hb, K.check w _ hkey, hf w, hz, Result.andThen]
    · have := hf1 w
      simp only [Array.toList_push] at this
      simp [Instr.lookup, run_underlying ht, MapKept.run_getObj_map hb, K.check w _ hkey, this, Result.andThen]
    · have hidx : (es.push ⟨key, z, clock⟩).findIdx? (fun e => ((e.born : Nat) : Int) == ((clock : Nat) : Int)) = some es.size := by
        rw [WideElems.findIdx_arr]
        exact WideElems.findIdx_born (l := (es.push ⟨key, z, clock⟩).toList) (j := es.size) (e0 := ⟨key, z, clock⟩) (by
          simp only [Array.toList_push, List.map_append, List.map_cons, List.map_nil]
          refine List.nodup_append.2 ⟨s2, by simp, fun a ha c hc e1 => ?_⟩
          simp only [List.mem_singleton] at hc
          obtain ⟨x, hx, rfl⟩ := List.mem_map.1 ha
          have := s1 x hx
          omega) (by simp)
      have hmod := push_last es ⟨key, z, clock⟩ (fun e => { e with val := val })
      simp [Instr.entryStore, MapKept.run_getObj_map hb, asInt, asIntOf, goInt, hidx, hmod, MapKept.run_setObj_map _ hb, Result.andThen, setBlock]
    · simp [Instr.mapUpdate, run_underlying ht, MapKept.run_getObj_map hb, K.check w false hkey, hf w, MapKept.run_setObj_map _ hb, Result.andThen, setBlock]
end
end Go.Proofs.YtjnnoabaepmcnaaGreat
/-
  A map of lines by its content: which keys are there, and what stands at each.
-/
namespace Go.Proofs.YtjnnoabaepmcnaaGreat
open Go.RowKit Go.Maps
open Go.ChangeMaps (setBlock)
open Go.WideElems (Fit rd rg pl rd_key)
set_option maxRecDepth 100000

theorem Tryz.zeroInt (w : World) : (zeroValue 3).run Tryz.prog w = .ok (.int .i64 0) w := by kernel_rfl
def ReadsAs (D : DataW Unit) (A : Key → Bool) (F : Key → Int) : Prop := ∀ k, k.wf → has D (kl k) = A k ∧ D.atKey (kl k) (.lit (.int .i64 0)) = .lit (.int .i64 (F k))
/-- Block b is a map of at most n lines: A says which are there, F what stands at each. -/
def LM (w : World) (b n : Nat) (A : Key → Bool) (F : Key → Int) : Prop := ∃ D : DataW Unit, w.ownsMap Tryz.prog 103 (plainElem (H := Unit) Tryz.prog 3) b n D ∧ ReadsAs D A F

theorem lm_heap {w w' : World} {b n : Nat} {A : Key → Bool} {F : Key → Int} (h : LM w b n A F) (e : w'.heap[b]? = w.heap[b]?) : LM w' b n A F := by
  obtain ⟨D, ⟨es, clock, hb, r⟩, hr⟩ := h
  exact ⟨D, ⟨es, clock, e.trans hb, r⟩, hr⟩
theorem lm_lt {w : World} {b n : Nat} {A : Key → Bool} {F : Key → Int} (h : LM w b n A F) : b < w.heap.size := by
  obtain ⟨D, hD, -⟩ := h
  exact hD.lt
theorem lm_below {w w' : World} {b n : Nat} {A : Key → Bool} {F : Key → Int} (h : LM w b n A F) (hb : Below w.heap.size w w') : LM w' b n A F := lm_heap h (hb.block b (lm_lt h))
theorem lm_grown {w w' : World} {b n : Nat} {A : Key → Bool} {F : Key → Int} {row : Option Nat} (h : LM w b n A F) (hg : w.grownBy w' row) (hr : row ≠ some b) : LM w' b n A F := lm_heap h (hg.block b (lm_lt h) (Ne.symm hr))
theorem lm_mono {w : World} {b n n' : Nat} {A : Key → Bool} {F : Key → Int} (h : LM w b n A F) (hn : n ≤ n') : LM w b n' A F := by
  obtain ⟨D, hD, hr⟩ := h
  exact ⟨D, hD.mono hn, hr⟩
theorem lm_congr {w : World} {b n : Nat} {A A' : Key → Bool} {F F' : Key → Int} (h : LM w b n A F) (hA : ∀ k, k.wf → A k = A' k) (hF : ∀ k, k.wf → F k = F' k) : LM w b n A' F' := by
  obtain ⟨D, hD, hr⟩ := h
  exact ⟨D, hD, fun k hk => by rw [← hA k hk, ← hF k hk]; exact hr k hk⟩
theorem lm_made (w : World) : LM (w.alloc (.map #[] 0)) w.heap.size 0 (fun _ => false) (fun _ => 0) :=
  ⟨.map [], World.ownsMap_made _ _ _ _, fun _ _ => ⟨rfl, rfl⟩⟩

def setK {α : Type} (f : Key → α) (k : Key) (v : α) : Key → α := fun z => if z = k then v else f z
theorem readsAs_put {D : DataW Unit} {A : Key → Bool} {F : Key → Int} (hD : IsMap D) (h : ReadsAs D A F) {k : Key} (hk : k.wf) (v : Int) : ReadsAs (D.put (kl k) (.lit (.int .i64 v))) (setK A k true) (setK F k v) := by
  intro z hz
  by_cases e : z = k
  · subst e
    simp only [setK, if_true]
    exact ⟨has_put_same hD (kl_key hz) _, atKey_put_same hD (kl_key hz) _ _⟩
  · have hne : kl z ≠ kl k := fun h => e (kl_inj hz hk h)
    simp only [setK, if_neg e]
    rw [has_put_other hne, atKey_put_other hne]
    exact h z hz
theorem readsAs_del {D : DataW Unit} {A : Key → Bool} {F : Key → Int} (h : ReadsAs D A F) {k : Key} (hk : k.wf) : ReadsAs (D.del (kl k)) (setK A k false) (setK F k 0) := by
  intro z hz
  by_cases e : z = k
  · subst e
    simp only [setK, if_true]
    exact ⟨has_del_same, atKey_del_same _⟩
  · have hne : kl z ≠ kl k := fun h => e (kl_inj hz hk h)
    simp only [setK, if_neg e]
    rw [has_del_other hne, atKey_del_other hne]
    exact h z hz
/-- Each key that is there is a line's. -/
theorem lm_key {w : World} {b n : Nat} {D : DataW Unit} (h : w.ownsMap Tryz.prog 103 (plainElem (H := Unit) Tryz.prog 3) b n D) {l : Lit} (hl : has D l = true) : ∃ k, k.wf ∧ l = kl k := by
  obtain ⟨es, clock, hb, F, hs, rfl⟩ := h
  obtain ⟨p, hp, hpk⟩ := List.any_eq_true.1 hl
  obtain ⟨x, hx, rfl⟩ := List.mem_map.1 (mem_sorted.1 hp)
  obtain ⟨y, hy⟩ := F.reads x hx
  have h1 := rd_key hy
  obtain ⟨k, hk, hw⟩ := key_inv h1
  refine ⟨k, hw, ?_⟩
  have h2 := WideAt.sameKey_eq hpk
  rw [WideElems.rg_of hy] at h2
  rw [← h2]
  rw [hk, kl_of hw] at h1
  exact (Option.some.inj h1).symm
theorem lm_size {w : World} {b n : Nat} {D : DataW Unit} {A : Key → Bool} {F : Key → Int} (h : w.ownsMap Tryz.prog 103 (plainElem (H := Unit) Tryz.prog 3) b n D) (hr : ReadsAs D A F) : (Maps.size D = 0 ↔ ∀ k, k.wf → A k = false) := by
  constructor
  · intro h0 k hk
    obtain ⟨es, rfl⟩ := h.isMap
    have : es = [] := List.eq_nil_of_length_eq_zero h0
    subst this
    rw [← (hr k hk).1]; rfl
  · intro hA
    obtain ⟨es, hes⟩ := h.isMap
    subst hes
    cases es with
    | nil => rfl
    | cons p r =>
      exfalso
      obtain ⟨es', e', _, hk⟩ := h.entries Tryz.keyLaw
      have hp : p ∈ es' := by cases e'; exact List.mem_cons_self
      have hhas : has (DataW.map (p :: r)) p.1 = true := by
        rw [has_eq, List.any_cons, WideAt.sameKey_self (hk p hp)]; rfl
      obtain ⟨k, hw, hkl⟩ := lm_key h hhas
      have := (hr k hw).1
      rw [← hkl, hhas, hA k hw] at this
      cases this

theorem lm_lookup {w : World} {b n : Nat} {A : Key → Bool} {F : Key → Int} (h : LM w b n A F) {k : Key} (hk : k.wf) : (Instr.lookup 90 (.map (some b)) (keyV k) false).run Tryz.prog w = .ok (.int .i64 (F k)) w := by
  obtain ⟨D, hD, hr⟩ := h
  obtain ⟨c, hrun, hat, -⟩ := hD.lookup_int Tryz.keyLaw Tryz.underlying90 Tryz.underlying3 (Tryz.zeroInt w) (kl_of hk)
  have := (hr k hk).2
  rw [hat] at this
  simp only [DataW.lit.injEq, Lit.int.injEq, true_and] at this
  rw [hrun, this]
theorem lm_store {w : World} {b n : Nat} {A : Key → Bool} {F : Key → Int} (h : LM w b n A F) (hn : n < maxLen) {k : Key} (hk : k.wf) {v : Int} (hv : (Lit.int .i64 v).wf = true) :
    ∃ w', (Instr.mapUpdate 90 (.map (some b)) (keyV k) (.int .i64 v)).run Tryz.prog w = .ok () w' ∧ LM w' b (n + 1) (setK A k true) (setK F k v) ∧ w.grownBy w' (some b) := by
  obtain ⟨D, hD, hr⟩ := h
  obtain ⟨w', h1, h2, h3⟩ := hD.update Tryz.keyLaw Tryz.underlying90 hn (kl_of hk) (plainElem_int Tryz.underlying3 hv)
  exact ⟨w', h1, ⟨_, h2, readsAs_put hD.isMap hr hk v⟩, h3⟩
theorem lm_wf {w : World} {b n : Nat} {A : Key → Bool} {F : Key → Int} (h : LM w b n A F) {k : Key} (hk : k.wf) : (Lit.int .i64 (F k)).wf = true := by
  obtain ⟨D, hD, hr⟩ := h
  obtain ⟨c, -, hat, hw⟩ := hD.lookup_int Tryz.keyLaw Tryz.underlying90 Tryz.underlying3 (Tryz.zeroInt w) (kl_of hk)
  have := (hr k hk).2
  rw [hat] at this
  simp only [DataW.lit.injEq, Lit.int.injEq, true_and] at this
  rw [← this]; exact hw

/-- 'm[k] += ..': the block before the entry is made, the block behind it, the entry's stamp. -/
structure Ent (b n : Nat) (k : Key) (A : Key → Bool) (F : Key → Int) (E0 E1 : Obj) (st : Nat) : Prop where
  entry : ∀ w : World, (w.heap[b]? = some E0 ∨ w.heap[b]? = some E1) → (Instr.mapEntry 90 (.map (some b)) (keyV k)).run Tryz.prog w = .ok (.tuple #[.int .i64 (F k), .int .i64 st]) (setBlock w b E1)
  look : ∀ w : World, (w.heap[b]? = some E0 ∨ w.heap[b]? = some E1) → (Instr.lookup 90 (.map (some b)) (keyV k) false).run Tryz.prog w = .ok (.int .i64 (F k)) w
  store : ∀ (w : World) (v : Int), (Lit.int .i64 v).wf = true → w.heap[b]? = some E1 → ∃ E', (Instr.entryStore 90 (.map (some b)) (.int .i64 st) (.int .i64 v)).run Tryz.prog w = .ok () (setBlock w b E') ∧ LM (setBlock w b E') b (n + 1) (setK A k true) (setK F k v)
theorem lm_ent {w0 : World} {b n : Nat} {A : Key → Bool} {F : Key → Int} (h : LM w0 b n A F) (hn : n < maxLen) {k : Key} (hk : k.wf) : ∃ E0 E1 st, w0.heap[b]? = some E0 ∧ Ent b n k A F E0 E1 st := by
  have hL := lm_lookup h hk
  have h0 := h
  obtain ⟨D, ⟨es, clock, hb, Ft, hs, hD⟩, hr⟩ := h0
  obtain ⟨v0, st, es1, clock1, e1, e2, l1, l2, hst⟩ := entry_all (b := b) Tryz.keyLaw Tryz.underlying90 Tryz.zeroInt Ft (kl_of hk)
  have hv0 : v0 = .int .i64 (F k) := by
    have := l1 w0 hb
    rw [hL] at this
    simp only [Result.ok.injEq, and_true] at this
    exact this.symm
  subst hv0
  refine ⟨_, .map es1 clock1, st, hb, fun w hw => hw.elim (e1 w) (e2 w), fun w hw => hw.elim (l1 w) (l2 w), fun w v hv hw => ?_⟩
  obtain ⟨es', clock', s1, s2⟩ := hst (.int .i64 v)
  refine ⟨_, s1 w hw, ?_⟩
  obtain ⟨w', u1, u2, -⟩ := lm_store h hn hk hv
  rw [s2 w0 hb] at u1
  simp only [Result.ok.injEq, true_and] at u1
  subst u1
  refine lm_heap u2 ?_
  rw [ChangeMaps.heap_setBlock_same hw, ChangeMaps.heap_setBlock_same hb]
theorem sb_same {w : World} {b : Nat} {o o' : Obj} (h : w.heap[b]? = some o) : (setBlock w b o').heap[b]? = some o' := by
  have := (Array.getElem?_eq_some_iff.1 h).1
  simp [setBlock, this]
theorem sb_other (w : World) {b i : Nat} (o' : Obj) (h : i ≠ b) : (setBlock w b o').heap[i]? = w.heap[i]? := by
  simp [setBlock, Array.getElem?_setIfInBounds_ne (Ne.symm h)]
theorem sb_grown (w : World) (b : Nat) (o' : Obj) : w.grownBy (setBlock w b o') (some b) :=
  ⟨rfl, rfl, rfl, by simp [setBlock], fun i _ hi => sb_other w o' fun e => hi (by rw [e])⟩

theorem lm_drop {w : World} {b n : Nat} {A : Key → Bool} {F : Key → Int} (h : LM w b n A F) {k : Key} (hk : k.wf) (ty : TypeId) :
    ∃ w', (Builtin.delete_ #[90, 103] ty #[.map (some b), keyV k]).run Tryz.prog w = .ok (.tuple #[]) w' ∧ LM w' b n (setK A k false) (setK F k 0) ∧ w.grownBy w' (some b) ∧ w'.heap.size = w.heap.size := by
  obtain ⟨D, hD, hr⟩ := h
  obtain ⟨w', h1, h2, h3⟩ := hD.drop Tryz.keyLaw Tryz.underlying90 (kl_of hk) ty
  refine ⟨w', h1, ⟨_, h2, readsAs_del hr hk⟩, h3.grown, ?_⟩
  obtain ⟨es, c, es', c', -, rfl⟩ := h3
  simp [setBlock]
theorem wpList_deleteLM (w : World) {ops : Array Oper} {rest : List Oper} {o : Oper} {a : Act} {Q : Exit → Act → World → Prop} {b n : Nat} {A : Key → Bool} {F : Key → Int} {k : Key} (hg : o.guard = none) (m x : Operand)
    (hop : o.op = Op.call { callee := Callee.builtin Builtin.delete, args := #[m, x], argTypes := #[90, 103] }) (hm : a.eval m = .map (some b)) (hx : a.eval x = keyV k) (h : LM w b n A F) (hk : k.wf)
    (hK : ∀ w', LM w' b n (setK A k false) (setK F k 0) → w.grownBy w' (some b) → w'.heap.size = w.heap.size → wpList Tryz.prog ops Q rest (a.put o.dst (.tuple #[])) w') : wpList Tryz.prog ops Q (o :: rest) a w := by
  refine wpList_plain hg fun K' hK' => ?_
  obtain ⟨w', hrun, r1, r2, r3⟩ := lm_drop h hk o.type
  unfold Oper.wp
  simp [execOp, hop, resolve, invoke, builtin, hm, hx, hrun, Result.andThen]
  exact hK' _ _ (hK w' r1 r2 r3)
theorem wpList_lookupLM (w : World) {ops : Array Oper} {rest : List Oper} {o : Oper} {a : Act} {Q : Exit → Act → World → Prop} {b n : Nat} {A : Key → Bool} {F : Key → Int} {k : Key} (hg : o.guard = none) (m x : Operand)
    (hop : o.op = Op.lookup 90 m x false) (hm : a.eval m = .map (some b)) (hx : a.eval x = keyV k) (h : LM w b n A F) (hk : k.wf)
    (hK : wpList Tryz.prog ops Q rest (a.put o.dst (.int .i64 (F k))) w) : wpList Tryz.prog ops Q (o :: rest) a w := by
  refine wpList_plain hg fun K' hK' => ?_
  unfold Oper.wp
  simp [execOp, hop, hm, hx, lm_lookup h hk, Result.andThen]
  exact hK' _ _ hK
theorem wpList_lenLM (w : World) {ops : Array Oper} {rest : List Oper} {o : Oper} {a : Act} {Q : Exit → Act → World → Prop} {b n : Nat} {A : Key → Bool} {F : Key → Int} (hg : o.guard = none) (m : Operand)
    (hop : o.op = Op.call { callee := Callee.builtin Builtin.len, args := #[m], argTypes := #[90] }) (hm : a.eval m = .map (some b)) (h : LM w b n A F)
    (hK : ∀ s : Nat, s ≤ n → (s = 0 ↔ ∀ k : Key, k.wf → A k = false) → wpList Tryz.prog ops Q rest (a.put o.dst (.int .i64 s)) w) : wpList Tryz.prog ops Q (o :: rest) a w := by
  refine wpList_plain hg fun K' hK' => ?_
  obtain ⟨D, hD, hr⟩ := h
  have hrun := hD.len Tryz.underlying90 o.type
  unfold Oper.wp
  simp [execOp, hop, resolve, invoke, builtin, hm, hrun, Result.andThen]
  exact hK' _ _ (hK _ hD.size_le (lm_size hD hr))

/-- 'for k, v := range m' under way: left says which lines are still to come. -/
def LR (w : World) (b r n : Nat) (A : Key → Bool) (F : Key → Int) (left : Key → Bool) (cnt : Nat) : Prop :=
  ∃ (D : DataW Unit) (lf : Lit → Bool), w.ranges Tryz.prog 103 (plainElem (H := Unit) Tryz.prog 3) b r n D lf cnt ∧ ReadsAs D A F ∧ ∀ k, k.wf → lf (kl k) = left k
theorem lr_owns {w : World} {b r n : Nat} {A : Key → Bool} {F : Key → Int} {left : Key → Bool} {cnt : Nat} (h : LR w b r n A F left cnt) : LM w b n A F := by
  obtain ⟨D, lf, h1, h2, -⟩ := h
  exact ⟨D, h1.owns, h2⟩
theorem lr_left {w : World} {b r n : Nat} {A : Key → Bool} {F : Key → Int} {left : Key → Bool} {cnt : Nat} (h : LR w b r n A F left cnt) : w.rangeLeft b r = cnt := by
  obtain ⟨D, lf, h1, -⟩ := h
  exact h1.left_eq
theorem lr_lt {w : World} {b r n : Nat} {A : Key → Bool} {F : Key → Int} {left : Key → Bool} {cnt : Nat} (h : LR w b r n A F left cnt) : r < w.heap.size := by
  obtain ⟨D, lf, h1, -⟩ := h
  exact h1.lt
theorem lr_grown {w w' : World} {b r n : Nat} {A : Key → Bool} {F : Key → Int} {left : Key → Bool} {cnt : Nat} {row : Option Nat} (h : LR w b r n A F left cnt) (hg : w.grownBy w' row) (hb : row ≠ some b) (hr : row ≠ some r) : LR w' b r n A F left cnt := by
  obtain ⟨D, lf, h1, h2, h3⟩ := h
  exact ⟨D, lf, h1.kept hg (Ne.symm hb) (Ne.symm hr), h2, h3⟩
theorem lr_below {w w' : World} {b r n : Nat} {A : Key → Bool} {F : Key → Int} {left : Key → Bool} {cnt : Nat} (h : LR w b r n A F left cnt) (hb : Below w.heap.size w w') : LR w' b r n A F left cnt :=
  lr_grown h (grown_of_below hb none) (by simp) (by simp)
theorem wpList_rangeLM (w : World) {ops : Array Oper} {rest : List Oper} {o : Oper} {a : Act} {Q : Exit → Act → World → Prop} {b n : Nat} {A : Key → Bool} {F : Key → Int} (hg : o.guard = none) (m : Operand) (hop : o.op = Op.range 90 m) (hm : a.eval m = .map (some b)) (h : LM w b n A F)
    (hK : ∀ w' cnt, LR w' b w.heap.size n A F A cnt → Below w.heap.size w w' → w'.heap.size = w.heap.size + 1 → wpList Tryz.prog ops Q rest (a.put o.dst (.pointer (some ⟨w.heap.size, 0, none⟩))) w') : wpList Tryz.prog ops Q (o :: rest) a w := by
  obtain ⟨D, hD, hr⟩ := h
  refine wpList_range_own w hg m _ hop _ _ Tryz.keyLaw Tryz.underlying90 _ b n D hm hD fun w' h1 h2 h3 => hK w' _ ⟨D, _, h1, hr, fun k hk => (hr k hk).1⟩ (grown_below h2 (fun k hk => by cases hk) (Nat.le_refl _)) h3
theorem wpList_nextLR (w : World) {ops : Array Oper} {rest : List Oper} {o : Oper} {a : Act} {Q : Exit → Act → World → Prop} {b r n : Nat} {A : Key → Bool} {F : Key → Int} {left : Key → Bool} {cnt : Nat} (hg : o.guard = none) (it : Operand) (hop : o.op = Op.next it false)
    (hit : a.eval it = .pointer (some ⟨r, 0, none⟩)) (h : LR w b r n A F left cnt)
    (hDone : (∀ k : Key, k.wf → left k = false) → wpList Tryz.prog ops Q rest (a.put o.dst (.tuple #[.bool false])) w)
    (hMore : ∀ (k : Key) (w' : World) (cnt' : Nat), k.wf → left k = true → LR w' b r n A F (fun z => left z && !decide (z = k)) cnt' → cnt' < cnt → w.grownBy w' (some r) → w'.heap.size = w.heap.size →
      (Instr.entry (.pointer (some ⟨r, 0, none⟩))).run Tryz.prog w' = .ok (.tuple #[keyV k, .int .i64 (F k)]) w' → wpList Tryz.prog ops Q rest (a.put o.dst (.tuple #[.bool true, keyV k, .int .i64 (F k)])) w') : wpList Tryz.prog ops Q (o :: rest) a w := by
  obtain ⟨D, lf, h1, h2, h3⟩ := h
  refine wpList_next_ranges w hg it hop _ Tryz.keyLaw _ keyV (Value.int .i64) (fun key l hk => ?_) (fun v y hv => ?_) b r n D lf cnt hit h1 (fun _ hl => hDone fun k hk => by rw [← h3 k hk]; exact hl _) fun x c l y w' cnt' q1 q2 q3 q4 q5 q6 q7 q8 q9 => ?_
  · obtain ⟨k, hk, -⟩ := key_inv hk
    exact ⟨k, hk⟩
  · obtain ⟨c, hc, -⟩ := plainElem_int_inv Tryz.underlying3 hv
    exact ⟨c, hc⟩
  · obtain ⟨k, hk, hw⟩ := key_inv q1
    obtain rfl := keyV_inj hk
    have hl : l = kl x := by rw [kl_of hw] at q1; exact (Option.some.inj q1).symm
    subst hl
    obtain ⟨c', hc, hy, -⟩ := plainElem_int_inv Tryz.underlying3 q3
    cases hc
    have hF : F x = c := by
      have e1 := (h2 x hw).2
      rw [q4, hy] at e1
      simp only [DataW.lit.injEq, Lit.int.injEq, true_and] at e1
      exact e1.symm
    subst hF
    refine hMore x w' cnt' hw (by rw [← h3 x hw]; exact q2) ⟨D, _, q5, h2, fun z hz => ?_⟩ q6 q7 q8 q9
    simp only [h3 z hz]
    congr 2
    by_cases e : z = x
    · subst e; rw [decide_eq_true rfl, WideAt.sameKey_self (kl_key hz)]
    · rw [decide_eq_false e, sameKey_ne fun h => e (kl_inj hz hw h)]
end Go.Proofs.YtjnnoabaepmcnaaGreat
/-
  CountLines, of the model and of the program.
-/
namespace Go.Proofs.YtjnnoabaepmcnaaGreat
open Go.RowKit

theorem lnum_range {rows cols dx dy y x : Int} (hn : Near dx dy) (r1 : 1 ≤ rows) (r2 : rows ≤ 5) (c1 : 1 ≤ cols) (c2 : cols ≤ 5) (y1 : 0 ≤ y) (y2 : y < rows) (x1 : 0 ≤ x) (x2 : x < cols) :
    0 ≤ lnum dx dy cols y x ∧ lnum dx dy cols y x ≤ 40 ∧ lnum dx dy cols y x ≤ max (lnum dx dy cols (rows - 1) 0) (lnum dx dy cols (rows - 1) (cols - 1)) := by
  obtain ⟨n1, n2, n3, n4⟩ := hn
  have hx : dx = 0 ∨ dx = 1 ∨ dx = 2 ∨ dx = 3 := by omega
  have hy : dy = -3 ∨ dy = -2 ∨ dy = -1 ∨ dy = 0 ∨ dy = 1 ∨ dy = 2 ∨ dy = 3 := by omega
  unfold lnum least
  rcases hx with rfl | rfl | rfl | rfl <;> rcases hy with rfl | rfl | rfl | rfl | rfl | rfl | rfl <;> omega
/-- The greatest number of a line, plus 1. -/
def countL (rows cols dx dy : Int) : Int := 1 + max (lnum dx dy cols (rows - 1) 0) (lnum dx dy cols (rows - 1) (cols - 1))
/-- n is the greatest 1 + number of the cells up to (k, j). -/
def UpTo (dx dy cols k j n : Int) : Prop :=
  (0 ≤ n ∧ n ≤ 41) ∧ (∀ y x, 0 ≤ y → 0 ≤ x → x < cols → (y < k ∨ (y = k ∧ x < j)) → 1 + lnum dx dy cols y x ≤ n) ∧ (n = 0 ∨ ∃ y x, 0 ≤ y ∧ 0 ≤ x ∧ x < cols ∧ (y < k ∨ (y = k ∧ x < j)) ∧ n = 1 + lnum dx dy cols y x)
theorem upTo_zero (dx dy cols : Int) : UpTo dx dy cols 0 0 0 := ⟨by omega, fun y x h1 h2 h3 h4 => by omega, .inl rfl⟩
theorem upTo_step {rows cols dx dy k j n : Int} (hn : Near dx dy) (r1 : 1 ≤ rows) (r2 : rows ≤ 5) (c1 : 1 ≤ cols) (c2 : cols ≤ 5) (y1 : 0 ≤ k) (y2 : k < rows) (x1 : 0 ≤ j) (x2 : j < cols) (h : UpTo dx dy cols k j n) :
    UpTo dx dy cols k (j + 1) (max n (1 + lnum dx dy cols k j)) := by
  obtain ⟨⟨h1, h2⟩, h3, h4⟩ := h
  obtain ⟨l1, l2, -⟩ := lnum_range hn r1 r2 c1 c2 y1 y2 x1 x2
  refine ⟨by omega, fun y x q1 q2 q3 q4 => ?_, ?_⟩
  · by_cases e : y = k ∧ x = j
    · obtain ⟨rfl, rfl⟩ := e; omega
    · have := h3 y x q1 q2 q3 (by omega); omega
  · by_cases e : n ≤ 1 + lnum dx dy cols k j
    · exact .inr ⟨k, j, y1, x1, x2, by omega, by omega⟩
    · rcases h4 with h4 | ⟨y, x, q1, q2, q3, q4, q5⟩
      · omega
      · exact .inr ⟨y, x, q1, q2, q3, by omega, by omega⟩
theorem upTo_row {cols dx dy k n : Int} (_c : 0 < cols) (h : UpTo dx dy cols k cols n) : UpTo dx dy cols (k + 1) 0 n := by
  obtain ⟨h1, h3, h4⟩ := h
  refine ⟨h1, fun y x q1 q2 q3 q4 => h3 y x q1 q2 q3 (by omega), ?_⟩
  rcases h4 with h4 | ⟨y, x, q1, q2, q3, q4, q5⟩
  · exact .inl h4
  · exact .inr ⟨y, x, q1, q2, q3, by omega, q5⟩
theorem upTo_all {rows cols dx dy n : Int} (hn : Near dx dy) (r1 : 1 ≤ rows) (r2 : rows ≤ 5) (c1 : 1 ≤ cols) (c2 : cols ≤ 5) (h : UpTo dx dy cols rows 0 n) : n = countL rows cols dx dy := by
  obtain ⟨⟨h1, h2⟩, h3, h4⟩ := h
  have a := h3 (rows - 1) 0 (by omega) (by omega) (by omega) (by omega)
  have b := h3 (rows - 1) (cols - 1) (by omega) (by omega) (by omega) (by omega)
  obtain ⟨p1, -⟩ := lnum_range hn r1 r2 c1 c2 (show 0 ≤ rows - 1 by omega) (by omega) (show 0 ≤ (0 : Int) by omega) (by omega)
  unfold countL
  rcases h4 with h4 | ⟨y, x, q1, q2, q3, q4, q5⟩
  · omega
  · obtain ⟨-, -, q⟩ := lnum_range hn r1 r2 c1 c2 q1 (by omega) q2 q3
    omega

theorem max_if (a b : Int) : (if a < b then b else a) = max a b := by split <;> omega
theorem exec_max {ρ : Operand → Value} {o : Oper} {w : World} {x y : Operand} {a b : Int} (ho : o.op = .call { callee := .builtin .max, args := #[x, y], argTypes := #[3, 3] }) (ht : o.type = 3) (hx : ρ x = .int .i64 a) (hy : ρ y = .int .i64 b) : (execOp ρ o).run Tryz.prog w = .ok (.value (.int .i64 (max a b))) w := by
  unfold execOp
  simp only [ho, ht]
  rw [← max_if]
  go_simp
set_option maxHeartbeats 400000 in
theorem implCountLines_no (rows cols dx dy : Int) (w : World) (hs : (sizeOk rows cols && dirOk dx dy) = false) :
    Calls Tryz.prog 85 #[.int .i64 rows, .int .i64 cols, .agg #[.int .i64 dx, .int .i64 dy]] w fun e w' => e = .returned (.int .i64 (-1)) ∧ Below w.heap.size w w' := by
  have HS := hide hs
  clear hs
  go_enter Tryz.func85, Tryz.ntmps85
  go_wp2_with (first | ((with_reducible refine (sizesOk_any rows cols dx dy _).mono ?_); rw [HS.out]; rintro e w1 ⟨rfl, hb⟩; have HG := hide (dirAt_below (heap_alloc_new w _) hb); have HB := hide (((Below.refl _ _).alloc (Nat.le_refl _) _).trans (hb.mono (by simp))); clear hb))
  go_ret
  exact ⟨rfl, HB.out⟩
set_option maxHeartbeats 1000000 in
theorem implCountLines_yes (rows cols dx dy : Int) (w : World) (hs : sizeOk rows cols = true) (hd : dirOk dx dy = true) :
    Calls Tryz.prog 85 #[.int .i64 rows, .int .i64 cols, .agg #[.int .i64 dx, .int .i64 dy]] w fun e w' => e = .returned (.int .i64 (countL rows cols dx dy)) ∧ Below w.heap.size w w' := by
  obtain ⟨⟨r1, r2⟩, c1, c2⟩ := sizeOk_yes hs
  have HN := hide (near_of hd)
  have HS : Hid ((sizeOk rows cols && dirOk dx dy) = true) := hide (by rw [hs, hd]; rfl)
  clear hs hd
  go_enter Tryz.func85, Tryz.ntmps85
  go_wp2_with (first | ((with_reducible refine (sizesOk_any rows cols dx dy _).mono ?_); rw [HS.out]; rintro e w1 ⟨rfl, hb⟩; have HG := hide (dirAt_below (heap_alloc_new w _) hb); have HB := hide (((Below.refl _ _).alloc (Nat.le_refl _) _).trans (hb.mono (by simp))); clear hb))
  obtain ⟨p1, p2, -⟩ := lnum_range HN.out r1 r2 c1 c2 (show 0 ≤ rows - 1 by omega) (by omega) (show 0 ≤ (0 : Int) by omega) (by omega)
  obtain ⟨q1, q2, -⟩ := lnum_range HN.out r1 r2 c1 c2 (show 0 ≤ rows - 1 by omega) (by omega) (show 0 ≤ cols - 1 by omega) (by omega)
  have l1 : IntKind.i64.wrap (rows - 1) = rows - 1 := IntWalk.i64_in _ (by omega)
  have l2 : IntKind.i64.wrap (cols - 1) = cols - 1 := IntWalk.i64_in _ (by omega)
  have l3 : IntKind.i64.wrap (1 + max (lnum dx dy cols (rows - 1) 0) (lnum dx dy cols (rows - 1) (cols - 1))) = 1 + max (lnum dx dy cols (rows - 1) 0) (lnum dx dy cols (rows - 1) (cols - 1)) := IntWalk.i64_in _ (by omega)
  obtain ⟨fs, hfs⟩ : ∃ fs : List FactP, fs = [isV (.int .i64 cols), isV (.agg #[.int .i64 dx, .int .i64 dy]), isV (.int .i64 rows), isV (.int .i64 (rows - 1)), isV (.int .i64 (lnum dx dy cols (rows - 1) 0)), isV (.int .i64 cols), isV (.agg #[.int .i64 dx, .int .i64 dy]), isV (.int .i64 rows), isV (.int .i64 (rows - 1)), isV (.int .i64 cols), isV (.int .i64 (cols - 1)), isV (.int .i64 (lnum dx dy cols (rows - 1) (cols - 1))), isV (.int .i64 (max (lnum dx dy cols (rows - 1) 0) (lnum dx dy cols (rows - 1) (cols - 1)))), isV (.int .i64 (countL rows cols dx dy))] := ⟨_, rfl⟩
  have hst : ∀ f ∈ fs, StableP f := by
    rw [hfs]; intro f hf
    simp only [List.mem_cons, List.not_mem_nil, or_false] at hf
    rcases hf with rfl | rfl | rfl | rfl | rfl | rfl | rfl | rfl | rfl | rfl | rfl | rfl | rfl | rfl <;> exact stable_v _
  subst hfs
  refine wp_region_tail (S := fun w2 => DirAt w2 w.heap.size dx dy ∧ Below w.heap.size w w2) [isV (.int .i64 cols), isV (.agg #[.int .i64 dx, .int .i64 dy]), isV (.int .i64 rows), isV (.int .i64 (rows - 1)), isV (.int .i64 (lnum dx dy cols (rows - 1) 0)), isV (.int .i64 cols), isV (.agg #[.int .i64 dx, .int .i64 dy]), isV (.int .i64 rows), isV (.int .i64 (rows - 1)), isV (.int .i64 cols), isV (.int .i64 (cols - 1)), isV (.int .i64 (lnum dx dy cols (rows - 1) (cols - 1))), isV (.int .i64 (max (lnum dx dy cols (rows - 1) 0) (lnum dx dy cols (rows - 1) (cols - 1)))), isV (.int .i64 (countL rows cols dx dy))] [(0, .int .i64 rows), (1, .int .i64 cols), (5, .pointer (some ⟨w.heap.size, 0, none⟩))] _ _ 14 (by kernel_rfl) rfl rfl (by kernel_rfl) (by kernel_rfl) rfl (by kernel_rfl) ?base ⟨HG.out, below_drew HB.out⟩ ?ob rfl ?fin
  case base =>
    intro t v ht
    simp only [List.lookup_cons, List.lookup_nil] at ht
    repeat' split at ht
    all_goals first | (cases ht; done) | (obtain rfl := Option.some.inj ht; rename_i hh; obtain rfl := eq_of_beq hh; rfl)
  case ob =>
    exact ⟨obt_move (.int .i64 cols) rfl rfl rfl (srt_b 1 rfl),
      obt_one (.agg #[.int .i64 dx, .int .i64 dy]) rfl rfl (srt_b 5 rfl) (fun ρ w2 hS hx => exec_loadDir rfl hx hS.1),
      obt_move (.int .i64 rows) rfl rfl rfl (srt_b 0 rfl),
      obt_two (.int .i64 (rows - 1)) rfl rfl (srt_j 2 rfl (by kernel_rfl) rfl) (srt_c (v := .int .i64 1)) (fun ρ w2 hS hx hy => by go_simp),
      obt_call hst [.int .i64 cols, .agg #[.int .i64 dx, .int .i64 dy], .int .i64 (rows - 1), .int .i64 0] rfl Tryz.func93 (by kernel_rfl) (by kernel_rfl) rfl ⟨(srt_j 0 rfl (by kernel_rfl) rfl), (srt_j 1 rfl (by kernel_rfl) rfl), (srt_j 3 rfl (by kernel_rfl) rfl), srt_c, trivial⟩ (fun w2 hS => (lineNumber_any dx dy cols (rows - 1) 0 w2 HN.out ⟨c1, c2⟩ ⟨by omega, by omega⟩ ⟨by omega, by omega⟩).mono fun e w3 hh => ⟨_, hh.1, ⟨dirAt_below hS.1 hh.2, hS.2.trans (hh.2.mono hS.2.size)⟩, hh.2, rfl⟩),
      obt_move (.int .i64 cols) rfl rfl rfl (srt_b 1 rfl),
      obt_one (.agg #[.int .i64 dx, .int .i64 dy]) rfl rfl (srt_b 5 rfl) (fun ρ w2 hS hx => exec_loadDir rfl hx hS.1),
      obt_move (.int .i64 rows) rfl rfl rfl (srt_b 0 rfl),
      obt_two (.int .i64 (rows - 1)) rfl rfl (srt_j 7 rfl (by kernel_rfl) rfl) (srt_c (v := .int .i64 1)) (fun ρ w2 hS hx hy => by go_simp),
      obt_move (.int .i64 cols) rfl rfl rfl (srt_b 1 rfl),
      obt_two (.int .i64 (cols - 1)) rfl rfl (srt_j 9 rfl (by kernel_rfl) rfl) (srt_c (v := .int .i64 1)) (fun ρ w2 hS hx hy => by go_simp),
      obt_call hst [.int .i64 cols, .agg #[.int .i64 dx, .int .i64 dy], .int .i64 (rows - 1), .int .i64 (cols - 1)] rfl Tryz.func93 (by kernel_rfl) (by kernel_rfl) rfl ⟨(srt_j 5 rfl (by kernel_rfl) rfl), (srt_j 6 rfl (by kernel_rfl) rfl), (srt_j 8 rfl (by kernel_rfl) rfl), (srt_j 10 rfl (by kernel_rfl) rfl), trivial⟩ (fun w2 hS => (lineNumber_any dx dy cols (rows - 1) (cols - 1) w2 HN.out ⟨c1, c2⟩ ⟨by omega, by omega⟩ ⟨by omega, by omega⟩).mono fun e w3 hh => ⟨_, hh.1, ⟨dirAt_below hS.1 hh.2, hS.2.trans (hh.2.mono hS.2.size)⟩, hh.2, rfl⟩),
      obt_two (.int .i64 (max (lnum dx dy cols (rows - 1) 0) (lnum dx dy cols (rows - 1) (cols - 1)))) rfl rfl (srt_j 4 rfl (by kernel_rfl) rfl) (srt_j 11 rfl (by kernel_rfl) rfl) (fun ρ w2 hS hx hy => exec_max rfl rfl hx hy),
      obt_two (.int .i64 (countL rows cols dx dy)) rfl rfl (srt_c (v := .int .i64 1)) (srt_j 12 rfl (by kernel_rfl) rfl) (fun ρ w2 hS hx hy => by rw [countL]; go_simp),
      trivial⟩
  case fin =>
    intro a' w' h1 h2 h3 hS h4 K hK
    have hv : a'.eval (.tmp 25) = .int .i64 (countL rows cols dx dy) := h4 13 25 rfl (by decide)
    refine tail_assign rfl hv ?_ K hK
    go_wp2
    exact bodyPost_ret (results_tmp rfl _ _ _) rfl ⟨congrArg Ending.returned (set_get (n := 26) h1 (by decide)), hS.2⟩
theorem implCountLines_any (rows cols dx dy : Int) (w : World) :
    Calls Tryz.prog 85 #[.int .i64 rows, .int .i64 cols, .agg #[.int .i64 dx, .int .i64 dy]] w fun e w' => e = .returned (.int .i64 (if (sizeOk rows cols && dirOk dx dy) = true then countL rows cols dx dy else -1)) ∧ Below w.heap.size w w' := by
  cases hs : (sizeOk rows cols && dirOk dx dy) with
  | false => exact implCountLines_no rows cols dx dy w hs
  | true =>
    rw [Bool.and_eq_true] at hs
    exact implCountLines_yes rows cols dx dy w hs.1 hs.2
end Go.Proofs.YtjnnoabaepmcnaaGreat
/-
  'm[k] += ..' in a region that draws its order: its operations.
-/
namespace Go.Proofs.YtjnnoabaepmcnaaGreat
open Go.RowKit Go.Maps
open Go.ChangeMaps (setBlock)
set_option maxRecDepth 100000

/-- A slot's value, and what block b holds. -/
def isB (v : Value) (b : Nat) (E : Obj) : FactP := fun u w => u = v ∧ w.heap[b]? = some E
theorem stable_b (v : Value) (b : Nat) (E : Obj) : StableP (isB v b E) := fun _ _ _ hb h => ⟨h.1, (hb.block b (Array.getElem?_eq_some_iff.1 h.2).1).trans h.2⟩
/-- A fact that outlives the making of the entry. -/
def OutP (b : Nat) (E : Obj) (f : FactP) : Prop := ∀ (u : Value) (w : World) (E' : Obj), w.heap[b]? = some E' → f u w → f u (setBlock w b E)
theorem out_v (v : Value) (b : Nat) (E : Obj) : OutP b E (isV v) := fun _ _ _ _ h => h
theorem out_b (v : Value) (b : Nat) (E : Obj) : OutP b E (isB v b E) := fun _ _ _ he h => ⟨h.1, sb_same he⟩
theorem out_all {fs : List FactP} {b : Nat} {E : Obj} (h : ∀ f ∈ fs, OutP b E f) (j : Nat) : OutP b E (factP fs j) := by
  unfold factP
  rw [List.getD_eq_getElem?_getD]
  cases hj : fs[j]? with
  | none => exact out_v _ _ _
  | some f => exact h f (List.mem_of_getElem? hj)
theorem ent_below {w w' : World} {b : Nat} {E0 E1 : Obj} (h : w.heap[b]? = some E0 ∨ w.heap[b]? = some E1) (hb : Below w.heap.size w w') : w'.heap[b]? = some E0 ∨ w'.heap[b]? = some E1 :=
  h.imp (fun e => (hb.block b (Array.getElem?_eq_some_iff.1 e).1).trans e) (fun e => (hb.block b (Array.getElem?_eq_some_iff.1 e).1).trans e)

theorem exec_lookupK {ρ : Operand → Value} {o : Oper} {w : World} {m x : Operand} {b : Nat} {k : Key} {c : Int} (ho : o.op = .lookup 90 m x false) (hm : ρ m = .map (some b)) (hx : ρ x = keyV k)
    (hrun : (Instr.lookup 90 (.map (some b)) (keyV k) false).run Tryz.prog w = .ok (.int .i64 c) w) : (execOp ρ o).run Tryz.prog w = .ok (.value (.int .i64 c)) w := by
  unfold execOp
  simp only [ho, hm, hx]
  simp [hrun, Result.andThen]
section
variable {Q : Exit → Act → World → Prop} {base : List (Tmp × Value)} {dsts : List (Option Tmp)} {S : World → Prop} {fs : List FactP} {i : Nat} {o : Oper}
theorem obt_entry {m x : Operand} {b n st : Nat} {k : Key} {A : Key → Bool} {F : Key → Int} {E0 E1 : Obj} (hE : Ent b n k A F E0 E1 st) (ho : o.op = .mapEntry 90 m x) (hf : factP fs i = isB (.tuple #[.int .i64 (F k), .int .i64 st]) b E1) (hg : o.guard = none)
    (hm : SrcT base dsts fs o m (.map (some b))) (hx : SrcT base dsts fs o x (keyV k)) (hout : ∀ f ∈ fs, OutP b E1 f) (hS0 : ∀ w, S w → w.heap[b]? = some E0 ∨ w.heap[b]? = some E1) (hS1 : ∀ w, S w → S (setBlock w b E1)) : Obt Tryz.prog Q base dsts S fs i o :=
  fun a w hS hB hD K hK => by
    have hh := hS0 w hS
    obtain ⟨E', he'⟩ : ∃ E', w.heap[b]? = some E' := hh.elim (fun e => ⟨_, e⟩) (fun e => ⟨_, e⟩)
    refine ⟨.inl hg, run_value (.tuple #[.int .i64 (F k), .int .i64 st]) (w' := setBlock w b E1) ?_ (hK _ _ (hS1 w hS) (fun j u h => out_all hout j u w E' he' h) (by rw [hf]; exact ⟨rfl, sb_same he'⟩))⟩
    unfold execOp
    simp only [ho, srt_val hm hB hD, srt_val hx hB hD]
    simp [hE.entry w hh, Result.andThen]
/-- The stamp out of the entry. -/
theorem obt_stamp {d : Tmp} {b : Nat} {E : Obj} {u v : Value} (j : Nat) (ho : o.op = .extract (.tmp d) 1) (hf : factP fs i = isV v) (hg : o.guard = none) (h1 : dsts[j]? = some (some d)) (h2 : depT o j = true) (h3 : factP fs j = isB (.tuple #[u, v]) b E) : Obt Tryz.prog Q base dsts S fs i o :=
  fun a w hS hB hD K hK => by
    have hv : a.eval (.tmp d) = .tuple #[u, v] := by
      have := hD j d h1 h2
      rw [h3] at this; exact this.1
    refine ⟨.inl hg, run_value v ?_ (hK _ _ hS (fun j u h => h) (by rw [hf]; rfl))⟩
    unfold execOp
    simp only [ho, hv]
    go_simp
end
theorem exec_keyV {ρ : Operand → Value} {o : Oper} {w : World} {x y : Operand} {dx dy n : Int} (ho : o.op = .build 103 #[(0, x), (1, y)]) (hx : ρ x = .agg #[.int .i64 dx, .int .i64 dy]) (hy : ρ y = .int .i64 n) :
    (execOp ρ o).run Tryz.prog w = .ok (.value (keyV ⟨dx, dy, n⟩)) w := by
  unfold execOp keyV
  simp only [ho]
  go_simp
end Go.Proofs.YtjnnoabaepmcnaaGreat
/-
  The frame behind a region that draws its order: the slots that the region writes, over the frame from before.
-/
namespace Go.Proofs.YtjnnoabaepmcnaaGreat
open Go.RowKit

def ov (ks : List (Nat × Value)) : Nat → List Value → List Value
  | _, [] => []
  | i, x :: r => (match ks.lookup i with | some v => v | none => x) :: ov ks (i + 1) r
def KV (a' : Act) : List (Nat × Value) → Prop
  | [] => True
  | p :: r => a'.tmps.getD p.1 undef = p.2 ∧ KV a' r
theorem kv_lookup {a' : Act} : ∀ {ks : List (Nat × Value)}, KV a' ks → ∀ {i : Nat} {v : Value}, ks.lookup i = some v → a'.tmps.getD i undef = v
  | [], _, i, v, h => by simp at h
  | p :: r, hk, i, v, h => by
    rw [List.lookup_cons] at h
    by_cases e : i == p.1
    · rw [e] at h
      have e' := eq_of_beq e
      simp only [Option.some.injEq] at h
      subst h; subst e'
      exact hk.1
    · have e' : (i == p.1) = false := by simpa using e
      rw [e'] at h
      exact kv_lookup hk.2 h
theorem frameAt_ov {ops : Array Oper} {a a' : Act} {ks : List (Nat × Value)} (h3 : ∀ t, outside ops t = true → a'.tmps.getD t undef = a.tmps.getD t undef) (hv : KV a' ks) : ∀ (xs : List Value) (i : Nat),
    (∀ j, j < xs.length → outside ops (i + j) = true ∨ (ks.lookup (i + j)).isSome = true) → (∀ j, (h : j < xs.length) → a.tmps.getD (i + j) undef = xs[j]) → frameAt a' i (ov ks i xs)
  | [], _, _, _ => trivial
  | x :: r, i, ho, hx => by
    refine ⟨?_, ?_⟩
    · cases hl : ks.lookup i with
      | some v => exact kv_lookup hv hl
      | none =>
        rcases ho 0 (by simp) with h | h
        · rw [Nat.add_zero] at h
          rw [h3 i h]
          exact hx 0 (by simp)
        · rw [Nat.add_zero, hl] at h; cases h
    · refine frameAt_ov h3 hv r (i + 1) (fun j hj => ?_) (fun j hj => ?_)
      · have := ho (j + 1) (by simpa using hj)
        rwa [show i + (j + 1) = i + 1 + j by omega] at this
      · have := hx (j + 1) (by simpa using hj)
        rw [show i + (j + 1) = i + 1 + j by omega] at this
        simpa using this
theorem ov_len (ks : List (Nat × Value)) : ∀ (xs : List Value) (i : Nat), (ov ks i xs).length = xs.length
  | [], _ => rfl
  | _ :: r, i => by simp [ov, ov_len ks r]
theorem frame_ov {ops : Array Oper} {a a' : Act} {xs : List Value} {ds : List Deferred} (ha : a = ⟨xs.toArray, ds⟩) (h1 : a'.tmps.size = a.tmps.size) (h2 : a'.defers = a.defers) (h3 : ∀ t, outside ops t = true → a'.tmps.getD t undef = a.tmps.getD t undef)
    (ks : List (Nat × Value)) (hk : ((List.range xs.length).all fun t => outside ops t || (ks.map (·.1)).contains t) = true) (hv : KV a' ks) : a' = ⟨(ov ks 0 xs).toArray, ds⟩ := by
  subst ha
  refine frame_eq _ (by rw [h1, ov_len]; simp) h2 (frameAt_ov h3 hv xs 0 (fun j hj => ?_) fun j hj => ?_)
  · rw [Nat.zero_add]
    have := List.all_eq_true.1 hk j (List.mem_range.2 hj)
    rw [Bool.or_eq_true] at this
    rcases this with h | h
    · exact .inl h
    · right
      clear hk h1 h2 h3 hv
      induction ks with
      | nil => simp at h
      | cons p r ih =>
        rw [List.lookup_cons]
        by_cases e : j == p.1
        · rw [e]; rfl
        · have e' : (j == p.1) = false := by simpa using e
          rw [e']
          refine ih ?_
          simp only [List.map_cons, List.contains_cons, e', Bool.false_or] at h
          exact h
  · simp [hj]
theorem obt_assign {P : Program} {Q : Exit → Act → World → Prop} {base : List (Tmp × Value)} {dsts : List (Option Tmp)} {S : World → Prop} {fs : List FactP} {i : Nat} {o : Oper} {x : Operand} (v : Value) (ho : o.op = .assign x) (hf : factP fs i = isV v) (hg : o.guard = none) (hx : SrcT base dsts fs o x v) : Obt P Q base dsts S fs i o :=
  obt_run v hf hg fun a w _ hs => by unfold execOp; rw [ho]; simp only [hs x v hx]; rfl
/-- An operation whose one operand is what a forerunner has left, told by a fact. -/
theorem obt_from {P : Program} {Q : Exit → Act → World → Prop} {base : List (Tmp × Value)} {dsts : List (Option Tmp)} {S : World → Prop} {fs : List FactP} {i : Nat} {o : Oper} {d : Tmp} (j : Nat) (hg : o.guard = none) (h1 : dsts[j]? = some (some d)) (h2 : depT o j = true)
    (hr : ∀ (ρ : Operand → Value) (w : World) (u : Value), S w → ρ (.tmp d) = u → factP fs j u w → ∃ v, (execOp ρ o).run P w = .ok (.value v) w ∧ factP fs i v w) : Obt P Q base dsts S fs i o :=
  fun a w hS _ hD K hK => by
    obtain ⟨v, hv1, hv2⟩ := hr a.eval w _ hS rfl (hD j d h1 h2)
    exact ⟨.inl hg, run_value v hv1 (hK _ _ hS (fun _ _ h => h) hv2)⟩
theorem exec_moveV {P : Program} {ρ : Operand → Value} {o : Oper} {w : World} {x : Operand} {u : Value} (ho : o.op = .move x) (hx : ρ x = u) : (execOp ρ o).run P w = .ok (.value u) w := by
  unfold execOp; rw [ho]; simp only [hx]; rfl
theorem exec_assignV {P : Program} {ρ : Operand → Value} {o : Oper} {w : World} {x : Operand} {u : Value} (ho : o.op = .assign x) (hx : ρ x = u) : (execOp ρ o).run P w = .ok (.value u) w := by
  unfold execOp; rw [ho]; simp only [hx]; rfl
theorem exec_extract0 {P : Program} {ρ : Operand → Value} {o : Oper} {w : World} {x : Operand} {u v : Value} (ho : o.op = .extract x 0) (hx : ρ x = .tuple #[u, v]) : (execOp ρ o).run P w = .ok (.value u) w := by
  unfold execOp
  simp only [ho, hx]
  go_simp
theorem exec_extract1 {P : Program} {ρ : Operand → Value} {o : Oper} {w : World} {x : Operand} {u v : Value} (ho : o.op = .extract x 1) (hx : ρ x = .tuple #[u, v]) : (execOp ρ o).run P w = .ok (.value v) w := by
  unfold execOp
  simp only [ho, hx]
  go_simp
end Go.Proofs.YtjnnoabaepmcnaaGreat
