/-
  'm[k] += v': the map's entry, met before or behind the look-up.
-/
import Derived.Test.YteogbddbafkieaaKey
import Derived.WideKeyEntry
namespace Go.Proofs.Yteogbddbafkieaa
open Go.RowKit Go.Maps
open Go.ChangeMaps (setBlock)
open Go.WideElems (Fit)

theorem push_last (es : Array MapEntry) (e : MapEntry) (f : MapEntry → MapEntry) : (es.push e).modify es.size f = es.push (f e) := by
  apply Array.ext'
  rw [Array.toList_modify, Array.toList_push, Array.toList_push, ← Array.length_toList, WideElems.modify_last]
theorem modify_same (es : Array MapEntry) (j : Nat) (e0 : MapEntry) (f : MapEntry → MapEntry) (h : es[j]? = some e0) (hf : f e0 = e0) : es.modify j f = es := by
  apply Array.ext'
  rw [Array.toList_modify, ChangeMaps.modify_eq_set _ _ _ _ (by simpa using h), hf]
  exact WideElems.set_self _ _ _ (by simpa using h)

section
variable {P : Program} {t k e : TypeId} {b : Nat}
theorem find_no (K : Keyed P k) {x : Value} {lx : Lit} (hx : keyOf P k x = some lx) {es : List MapEntry} (hes : ∀ e ∈ es, ∃ l, keyOf P k e.key = some l) (h : ∀ e ∈ es, e.key ≠ x) (w : World) : (Instr.findKey k x es).run P w = .ok none w := by
  rcases K.find w hx es hes with ⟨h1, _⟩ | ⟨j, e, _, h2, h3⟩
  · exact h1
  · exact absurd h3 (h e (List.mem_of_getElem? h2))
theorem find_yes (K : Keyed P k) {x : Value} {lx : Lit} (hx : keyOf P k x = some lx) {es : List MapEntry} (hes : ∀ e ∈ es, ∃ l, keyOf P k e.key = some l) (hp : es.Pairwise fun x y => x.key ≠ y.key) {j : Nat} {e0 : MapEntry} (hj : es[j]? = some e0) (he : e0.key = x) (w : World) :
    (Instr.findKey k x es).run P w = .ok (some (j, e0.val)) w := by
  rcases K.find w hx es hes with ⟨_, h2⟩ | ⟨i, e, h1, h2, h3⟩
  · exact absurd he (h2 e0 (List.mem_of_getElem? hj))
  · have hij : i = j := by
      obtain ⟨hi, hie⟩ := List.getElem?_eq_some_iff.1 h2
      obtain ⟨hj', hje⟩ := List.getElem?_eq_some_iff.1 hj
      rcases Nat.lt_trichotomy i j with h | h | h
      · exact absurd (by rw [hie, hje, h3, he]) (List.pairwise_iff_getElem.1 hp i j hi hj' h)
      · exact h
      · exact absurd (by rw [hie, hje, h3, he]) (List.pairwise_iff_getElem.1 hp j i hj' hi h)
    subst hij
    rw [hj] at h2
    obtain rfl := Option.some.inj h2
    exact h1

/-- The entry at a key is made or found; the look-up yields the same before and behind it; the store behind it is a store at the key. -/
theorem entry_all {H : Type} {R : Value → Option (DataW H × List MemPlace)} {es : Array MapEntry} {clock : Nat} (K : Keyed P k) (ht : P.underlying t = some (.map k e)) {z : Value} (hz : ∀ u : World, (zeroValue e).run P u = .ok z u) (F : Fit P k R es clock)
    {key : Value} {lx : Lit} (hkey : keyOf P k key = some lx) :
    ∃ (v0 : Value) (st : Nat) (es1 : Array MapEntry) (clock1 : Nat),
      (∀ w : World, w.heap[b]? = some (.map es clock) → (Instr.mapEntry t (.map (some b)) key).run P w = .ok (.tuple #[v0, goInt st]) (setBlock w b (.map es1 clock1))) ∧
      (∀ w : World, w.heap[b]? = some (.map es1 clock1) → (Instr.mapEntry t (.map (some b)) key).run P w = .ok (.tuple #[v0, goInt st]) (setBlock w b (.map es1 clock1))) ∧
      (∀ w : World, w.heap[b]? = some (.map es clock) → (Instr.lookup t (.map (some b)) key false).run P w = .ok v0 w) ∧
      (∀ w : World, w.heap[b]? = some (.map es1 clock1) → (Instr.lookup t (.map (some b)) key false).run P w = .ok v0 w) ∧
      ∀ val : Value, ∃ es' clock', (∀ w : World, w.heap[b]? = some (.map es1 clock1) → (Instr.entryStore t (.map (some b)) (goInt st) val).run P w = .ok () (setBlock w b (.map es' clock'))) ∧
        ∀ w : World, w.heap[b]? = some (.map es clock) → (Instr.mapUpdate t (.map (some b)) key val).run P w = .ok () (setBlock w b (.map es' clock')) := by
  obtain ⟨s1, s2, s3⟩ := F.stamped
  have hpw : es.toList.Pairwise fun x y => x.key ≠ y.key := by have := s3; unfold List.Nodup at this; rw [List.pairwise_map] at this; exact this
  by_cases hin : ∃ (j : Nat) (e0 : MapEntry), es.toList[j]? = some e0 ∧ e0.key = key
  · obtain ⟨j, e0, h2, h3⟩ := hin
    have hf := fun w => find_yes K hkey F.keys hpw h2 h3 w
    have hj : es[j]? = some e0 := by simpa using h2
    have hsame : es.modify j (fun e => { e with key := key }) = es := modify_same es j e0 _ hj (by rw [← h3])
    have hr : ∀ w : World, w.heap[b]? = some (.map es clock) → (Instr.mapEntry t (.map (some b)) key).run P w = .ok (.tuple #[e0.val, goInt e0.born]) (setBlock w b (.map es clock)) := fun w hb => by
      simp [Instr.mapEntry, run_underlying ht, MapKept.run_getObj_map hb, K.check w false hkey, hf w, hj, h3, K.stays w hkey, hsame, MapKept.run_setObj_map _ hb, Result.andThen, setBlock]
    have hl : ∀ w : World, w.heap[b]? = some (.map es clock) → (Instr.lookup t (.map (some b)) key false).run P w = .ok e0.val w := fun w hb => by
      simp [Instr.lookup, run_underlying ht, MapKept.run_getObj_map hb, K.check w _ hkey, hf w, Result.andThen]
    refine ⟨e0.val, e0.born, es, clock, hr, hr, hl, hl, fun val => ⟨es.modify j (fun e' => { e' with key := key, val := val }), clock, fun w hb => ?_, fun w hb => ?_⟩⟩
    · have hidx : es.findIdx? (fun e => ((e.born : Nat) : Int) == ((e0.born : Nat) : Int)) = some j := by
        rw [WideElems.findIdx_arr]; exact WideElems.findIdx_born s2 h2
      have hmod : es.modify j (fun e => { e with val := val }) = es.modify j (fun e' => { e' with key := key, val := val }) := by
        apply Array.ext'
        rw [Array.toList_modify, Array.toList_modify, ChangeMaps.modify_eq_set _ _ _ _ h2, ChangeMaps.modify_eq_set _ _ _ _ h2, ← h3]
      simp [Instr.entryStore, MapKept.run_getObj_map hb, asInt, asIntOf, goInt, hidx, hmod, MapKept.run_setObj_map _ hb, Result.andThen, setBlock]
    · simp [Instr.mapUpdate, run_underlying ht, MapKept.run_getObj_map hb, K.check w false hkey, hf w, hj, h3, K.stays w hkey, MapKept.run_setObj_map _ hb, Result.andThen, setBlock]
  · have hno : ∀ x ∈ es.toList, x.key ≠ key := fun x hx e1 => by
      obtain ⟨j, hj⟩ := List.getElem?_of_mem hx
      exact hin ⟨j, x, hj, e1⟩
    have hf := fun w => find_no K hkey F.keys hno w
    have hk1 : ∀ x ∈ (es.push ⟨key, z, clock⟩).toList, ∃ l, keyOf P k x.key = some l := fun x hx => by
      rw [Array.toList_push, List.mem_append, List.mem_singleton] at hx
      rcases hx with hx | rfl
      · exact F.keys x hx
      · exact ⟨_, hkey⟩
    have hp1 : (es.push ⟨key, z, clock⟩).toList.Pairwise fun x y => x.key ≠ y.key := by
      rw [Array.toList_push]
      refine List.pairwise_append.2 ⟨hpw, List.pairwise_singleton _ _, fun x hx y hy => ?_⟩
      rw [List.mem_singleton] at hy
      subst hy
      exact hno x hx
    have hlast : (es.push ⟨key, z, clock⟩).toList[es.size]? = some ⟨key, z, clock⟩ := by simp
    have hf1 := fun w => find_yes K hkey hk1 hp1 hlast rfl w
    have hj1 : (es.push ⟨key, z, clock⟩)[es.size]? = some ⟨key, z, clock⟩ := by simp
    have hsame : (es.push ⟨key, z, clock⟩).modify es.size (fun e => { e with key := key }) = es.push ⟨key, z, clock⟩ := by rw [push_last]
    refine ⟨z, clock, es.push ⟨key, z, clock⟩, clock + 1, fun w hb => ?_, fun w hb => ?_, fun w hb => ?_, fun w hb => ?_, fun val => ⟨es.push ⟨key, val, clock⟩, clock + 1, fun w hb => ?_, fun w hb => ?_⟩⟩
    · simp [Instr.mapEntry, run_underlying ht, MapKept.run_getObj_map hb, K.check w false hkey, hf w, hz, MapKept.run_setObj_map _ hb, Result.andThen, setBlock]
    · have := hf1 w
      simp only [Array.toList_push] at this
      simp [Instr.mapEntry, run_underlying ht, MapKept.run_getObj_map hb, K.check w false hkey, this, K.stays w hkey, hsame, MapKept.run_setObj_map _ hb, Result.andThen, setBlock]
    · simp [Instr.lookup, run_underlying ht, MapKept.run_getObj_map hb, K.check w _ hkey, hf w, hz, Result.andThen]
    · have := hf1 w
      simp only [Array.toList_push] at this
      simp [Instr.lookup, run_underlying ht, MapKept.run_getObj_map hb, K.check w _ hkey, this, Result.andThen]
    · have hidx : (es.push ⟨key, z, clock⟩).findIdx? (fun e => ((e.born : Nat) : Int) == ((clock : Nat) : Int)) = some es.size := by
        rw [WideElems.findIdx_arr]
        exact WideElems.findIdx_born (l := (es.push ⟨key, z, clock⟩).toList) (j := es.size) (e0 := ⟨key, z, clock⟩) (by
          simp only [Array.toList_push, List.map_append, List.map_cons, List.map_nil]
          refine List.nodup_append.2 ⟨s2, by simp, fun a ha c hc e1 => ?_⟩
          simp only [List.mem_singleton] at hc
          obtain ⟨x, hx, rfl⟩ := List.mem_map.1 ha
          have := s1 x hx
          omega) (by simp)
      have hmod := push_last es ⟨key, z, clock⟩ (fun e => { e with val := val })
      simp [Instr.entryStore, MapKept.run_getObj_map hb, asInt, asIntOf, goInt, hidx, hmod, MapKept.run_setObj_map _ hb, Result.andThen, setBlock]
    · simp [Instr.mapUpdate, run_underlying ht, MapKept.run_getObj_map hb, K.check w false hkey, hf w, MapKept.run_setObj_map _ hb, Result.andThen, setBlock]
end
end Go.Proofs.Yteogbddbafkieaa
