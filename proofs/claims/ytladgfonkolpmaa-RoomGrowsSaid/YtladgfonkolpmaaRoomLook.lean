/-
  A map of a call's own: a look-up behind the laying of an entry. Nothing of the program stands here.
-/
import Derived.Maps.Keyed
import Derived.WideKeyEntry
namespace Go.Maps
open Go.ChangeShapes Go.WideShapes Go.MapKept

/-- a look-up behind 'the entry for it is laid' tells what it would have told ahead of it -/
theorem look_after {H : Type} {P : Program} {w : World} {t k e : TypeId} {R : Value → Option (DataW H × List MemPlace)} {b : Nat} {es : Array MapEntry} {clock : Nat} (K : Keyed P k) (ht : P.underlying t = some (.map k e)) {z : Value} (hz : ∀ u : World, (zeroValue e).run P u = .ok z u)
    (hb : w.heap[b]? = some (.map es clock)) (F : WideElems.Fit P k R es clock) {key : Value} {kl : Lit} (hkey : keyOf P k key = some kl) {x v : Value} {W1 : World} (hx : (Instr.lookup t (.map (some b)) key false).run P w = .ok x w)
    (hE : (Instr.mapEntry t (.map (some b)) key).run P w = .ok v W1) : (Instr.lookup t (.map (some b)) key false).run P W1 = .ok x W1 := by
  rcases K.find w hkey es.toList F.keys with ⟨h1, h2⟩ | ⟨j, e0, h1, h2, h3⟩
  · have hx' : (Instr.lookup t (.map (some b)) key false).run P w = .ok z w := by
      simp [Instr.lookup, run_underlying ht, MapKept.run_getObj_map hb, K.check w _ hkey, h1, hz, Result.andThen]
    rw [hx] at hx'
    have hxz := (Result.ok.inj hx').1
    subst hxz
    have hE' : (Instr.mapEntry t (.map (some b)) key).run P w = .ok (.tuple #[x, goInt clock]) (ChangeMaps.setBlock w b (.map (es.push ⟨key, x, clock⟩) (clock + 1))) := by
      simp [Instr.mapEntry, run_underlying ht, MapKept.run_getObj_map hb, K.check w false hkey, h1, hz, MapKept.run_setObj_map _ hb, Result.andThen, ChangeMaps.setBlock]
    rw [hE] at hE'
    have hW := (Result.ok.inj hE').2
    subst hW
    have hb1 : (ChangeMaps.setBlock w b (.map (es.push ⟨key, x, clock⟩) (clock + 1))).heap[b]? = some (.map (es.push ⟨key, x, clock⟩) (clock + 1)) := ChangeMaps.heap_setBlock_same hb _
    rcases K.find (ChangeMaps.setBlock w b (.map (es.push ⟨key, x, clock⟩) (clock + 1))) hkey (es.push ⟨key, x, clock⟩).toList (fun y hy => by
        rw [Array.toList_push, List.mem_append] at hy
        rcases hy with hy | hy
        · exact F.keys y hy
        · rw [List.mem_singleton.1 hy]; exact ⟨kl, hkey⟩) with ⟨_, g2⟩ | ⟨j, e1, g1, g2, g3⟩
    · exact absurd rfl (g2 ⟨key, x, clock⟩ (by simp))
    · have hm := List.mem_of_getElem? g2
      rw [Array.toList_push, List.mem_append] at hm
      rcases hm with hm | hm
      · exact absurd g3 (h2 e1 hm)
      · rw [List.mem_singleton.1 hm] at g1
        simp only [Array.toList_push] at g1
        simp [Instr.lookup, run_underlying ht, MapKept.run_getObj_map hb1, K.check _ _ hkey, g1, Result.andThen]
  · have hj : es[j]? = some e0 := by simpa using h2
    have hsame : es.modify j (fun e => { e with key := key }) = es := by
      apply Array.ext'
      rw [Array.toList_modify, ChangeMaps.modify_eq_set _ _ _ _ h2]
      have : ({ e0 with key := key } : MapEntry) = e0 := by rw [← h3]
      rw [this]
      exact WideElems.set_self _ _ _ h2
    have hE' : (Instr.mapEntry t (.map (some b)) key).run P w = .ok (.tuple #[e0.val, goInt e0.born]) (ChangeMaps.setBlock w b (.map es clock)) := by
      simp [Instr.mapEntry, run_underlying ht, MapKept.run_getObj_map hb, K.check w false hkey, h1, hj, h3, K.stays w hkey, hsame, MapKept.run_setObj_map _ hb, Result.andThen, ChangeMaps.setBlock]
    have hsw : ChangeMaps.setBlock w b (.map es clock) = w := by
      have e : w.heap.setIfInBounds b (.map es clock) = w.heap := by
        apply Array.ext_getElem?
        intro i
        by_cases hi : i = b
        · subst hi
          exact (ChangeMaps.heap_setBlock_same hb _).trans hb.symm
        · exact ChangeMaps.heap_setBlock_other hb _ hi
      unfold ChangeMaps.setBlock
      rw [e]
    rw [hE, hsw] at hE'
    have hW := (Result.ok.inj hE').2
    rw [hW]
    exact hx

end Go.Maps
