/-
  Maps keyed by 32-bit numbers, as functions: looked up, written, deleted from. Nothing of one statement alone stands here.
-/
import Derived.Test.YtbfifppdcmimaaaGreatKB
import Derived.Maps.Keyed
import Derived.WideKeyEntry
namespace Go.Proofs.YtbfifppdcmimaaaGreat
open Go.RowKit Go.Maps

theorem u32Keyed : Keyed Tryz.prog 22 := int_keyed Tryz.underlying22
theorem wf_u32S {z : Int} (h : 0 ≤ z ∧ z < 4294967296) : (Lit.int .u32 z).wf = true := by
  unfold Lit.wf
  have e1 : IntKind.u32.min = 0 := by decide
  have e2 : IntKind.u32.max = 4294967295 := by decide
  simp [e1, e2]
  omega
theorem u32_key {z : Int} (h : 0 ≤ z ∧ z < 4294967296) : keyOf Tryz.prog 22 (.int .u32 z) = some (.int .u32 z) := keyOf_int_mk Tryz.underlying22 (wf_u32S h)

/-- a map in memory: of each key what it holds, and how many keys there are -/
structure MpAt (w : World) (b : Nat) (m : Int → Option Value) (n : Nat) : Prop where
  es : ∃ (es : Array MapEntry) (clock : Nat), w.heap[b]? = some (.map es clock) ∧ es.size = n ∧ es.toList.Pairwise (fun x y => x.key ≠ y.key) ∧
    (∀ e ∈ es.toList, ∃ z : Int, (0 ≤ z ∧ z < 4294967296) ∧ e.key = .int .u32 z ∧ m z = some e.val) ∧ (∀ z v, m z = some v → ∃ e ∈ es.toList, e.key = .int .u32 z ∧ e.val = v) ∧
    (∀ e ∈ es.toList, e.born < clock) ∧ (es.toList.map (·.born)).Nodup
theorem MpAt.below {w w' : World} {b : Nat} {m : Int → Option Value} {n : Nat} (h : MpAt w b m n) (hb : Below w.heap.size w w') : MpAt w' b m n := by
  obtain ⟨es, clock, h1, h2⟩ := h.es
  have hlt : b < w.heap.size := by
    rcases Nat.lt_or_ge b w.heap.size with h | h
    · exact h
    · rw [Array.getElem?_eq_none h] at h1; cases h1
  exact ⟨es, clock, (hb.block b hlt).trans h1, h2⟩
theorem MpAt.new (w : World) : MpAt (w.alloc (.map #[] 0)) w.heap.size (fun _ => none) 0 :=
  ⟨#[], 0, heap_alloc_new w _, rfl, by simp, by simp, by simp, by simp, by simp⟩
/-- what a look-up answers -/
def lkV (z : Value) (r : Option Value) : Value := .tuple #[r.getD z, .bool r.isSome]
set_option maxRecDepth 100000 in
theorem MpAt.lookup {w : World} {b : Nat} {m : Int → Option Value} {n : Nat} (h : MpAt w b m n) {t e : TypeId} (ht : Tryz.prog.underlying t = some (.map 22 e)) {z : Value} (hz : ∀ u : World, (zeroValue e).run Tryz.prog u = .ok z u) {k : Int} (hk : 0 ≤ k ∧ k < 4294967296) :
    (Instr.lookup t (.map (some b)) (.int .u32 k) true).run Tryz.prog w = .ok (lkV z (m k)) w := by
  obtain ⟨es, clock, h1, h2, h3, h4, h5, h6, h7⟩ := h.es
  have hkeys : ∀ y ∈ es.toList, ∃ l, keyOf Tryz.prog 22 y.key = some l := fun y hy => by
    obtain ⟨q, hq, e1, -⟩ := h4 y hy
    exact ⟨_, by rw [e1]; exact u32_key hq⟩
  rcases u32Keyed.find w (u32_key hk) es.toList hkeys with ⟨g1, g2⟩ | ⟨j, e0, g1, g2, g3⟩
  · have hm : m k = none := by
      rcases hq : m k with _ | v
      · rfl
      · obtain ⟨e0, he, e1, -⟩ := h5 k v hq
        exact absurd e1 (g2 e0 he)
    rw [hm]
    simp [Instr.lookup, run_underlying ht, MapKept.run_getObj_map h1, u32Keyed.check w _ (u32_key hk), g1, hz, Result.andThen, lkV]
  · have hmem := List.mem_of_getElem? g2
    obtain ⟨q, hq, e1, e2⟩ := h4 e0 hmem
    rw [g3] at e1
    injection e1 with _ e1
    subst e1
    rw [e2]
    simp [Instr.lookup, run_underlying ht, MapKept.run_getObj_map h1, u32Keyed.check w _ (u32_key hk), g1, Result.andThen, lkV]
theorem kp_block {w : World} {b : Nat} {x : Obj} : Kp (fun i => i = b) w (ChangeMaps.setBlock w b x) :=
  ⟨rfl, rfl, rfl, by simp [ChangeMaps.setBlock], fun i _ hi => by
    simp only [ChangeMaps.setBlock]
    rw [Array.getElem?_setIfInBounds, if_neg (fun e => hi e.symm)]⟩
theorem MpAt.lt {w : World} {b : Nat} {m : Int → Option Value} {n : Nat} (h : MpAt w b m n) : b < w.heap.size := by
  obtain ⟨es, clock, h1, -⟩ := h.es
  rcases Nat.lt_or_ge b w.heap.size with h | h
  · exact h
  · rw [Array.getElem?_eq_none h] at h1; cases h1
theorem bd_of_map {l l' : List MapEntry} {c : Nat} (e : l'.map (·.born) = l.map (·.born)) (h : ∀ x ∈ l, x.born < c) : ∀ x ∈ l', x.born < c := fun x hx => by
  have h1 : x.born ∈ l'.map (·.born) := List.mem_map.2 ⟨x, hx, rfl⟩
  rw [e] at h1
  obtain ⟨y, hy, e2⟩ := List.mem_map.1 h1
  rw [← e2]
  exact h y hy
/-- a map written to -/
def upM (m : Int → Option Value) (k : Int) (v : Value) (z : Int) : Option Value := if z = k then some v else m z
set_option maxRecDepth 100000 in
theorem MpAt.update {w : World} {b : Nat} {m : Int → Option Value} {n : Nat} (h : MpAt w b m n) {t e : TypeId} (ht : Tryz.prog.underlying t = some (.map 22 e)) {k : Int} (hk : 0 ≤ k ∧ k < 4294967296) (v : Value) :
    ∃ x, (Instr.mapUpdate t (.map (some b)) (.int .u32 k) v).run Tryz.prog w = .ok () (ChangeMaps.setBlock w b x) ∧ MpAt (ChangeMaps.setBlock w b x) b (upM m k v) (if (m k).isSome = true then n else n + 1) := by
  have hlt := h.lt
  obtain ⟨es, clock, h1, h2, h3, h4, h5, h6, h7⟩ := h.es
  have hkeys : ∀ y ∈ es.toList, ∃ l, keyOf Tryz.prog 22 y.key = some l := fun y hy => by
    obtain ⟨q, hq, e1, -⟩ := h4 y hy
    exact ⟨_, by rw [e1]; exact u32_key hq⟩
  rcases u32Keyed.find w (u32_key hk) es.toList hkeys with ⟨g1, g2⟩ | ⟨j, e0, g1, g2, g3⟩
  · have hm : m k = none := by
      rcases hq : m k with _ | v
      · rfl
      · obtain ⟨e0, he, e1, -⟩ := h5 k v hq
        exact absurd e1 (g2 e0 he)
    refine ⟨.map (es.push ⟨.int .u32 k, v, clock⟩) (clock + 1), ?_, ?_⟩
    · simp [Instr.mapUpdate, run_underlying ht, MapKept.run_getObj_map h1, u32Keyed.check w _ (u32_key hk), g1, Result.andThen, MapKept.run_setObj_map _ h1, ChangeMaps.setBlock]
    · refine ⟨⟨_, _, ChangeMaps.heap_setBlock_same h1 _, by rw [hm]; simp [h2], ?_, fun y hy => ?_, fun z u hz => ?_, fun y hy => ?_, ?_⟩⟩
      · rw [Array.toList_push, List.pairwise_append]
        refine ⟨h3, by simp, fun y hy x hx => ?_⟩
        rw [List.mem_singleton.1 hx]
        exact g2 y hy
      · rw [Array.toList_push, List.mem_append] at hy
        rcases hy with hy | hy
        · obtain ⟨q, hq, e1, e2⟩ := h4 y hy
          refine ⟨q, hq, e1, ?_⟩
          unfold upM
          rw [if_neg (fun e => g2 y hy (by rw [e1, e]))]
          exact e2
        · rw [List.mem_singleton.1 hy]
          exact ⟨k, hk, rfl, by unfold upM; rw [if_pos rfl]⟩
      · unfold upM at hz
        rw [Array.toList_push]
        by_cases e : z = k
        · rw [if_pos e] at hz
          injection hz with hz
          exact ⟨⟨.int .u32 k, v, clock⟩, by simp, by rw [e], hz⟩
        · rw [if_neg e] at hz
          obtain ⟨y, hy, e1, e2⟩ := h5 z u hz
          exact ⟨y, by simp [hy], e1, e2⟩
      · rw [Array.toList_push, List.mem_append] at hy
        rcases hy with hy | hy
        · exact Nat.lt_succ_of_lt (h6 y hy)
        · rw [List.mem_singleton.1 hy]
          exact Nat.lt_succ_self _
      · rw [Array.toList_push, List.map_append, List.nodup_append]
        refine ⟨h7, by simp, fun x hx y hy => ?_⟩
        obtain ⟨e1, he1, rfl⟩ := List.mem_map.1 hx
        have : y = clock := by simpa using hy
        subst this
        exact Nat.ne_of_lt (h6 e1 he1)
  · have hj : es[j]? = some e0 := by simpa using g2
    have hmem := List.mem_of_getElem? g2
    obtain ⟨q, hq, e1, e2⟩ := h4 e0 hmem
    have hqk : q = k := by
      rw [g3] at e1
      injection e1 with _ e1
      exact e1.symm
    subst hqk
    have hjl : j < es.toList.length := (List.getElem?_eq_some_iff.1 g2).1
    have hjv : es.toList[j] = e0 := (List.getElem?_eq_some_iff.1 g2).2
    have hjs0 : j < es.size := by simpa using hjl
    have hL : (es.modify j fun e => { e with key := .int .u32 q, val := v }).toList = es.toList.set j ⟨.int .u32 q, v, e0.born⟩ := by
      rw [Array.toList_modify, ChangeMaps.modify_eq_set _ _ _ _ g2]
    have hpw := List.pairwise_iff_getElem.1 h3
    have hne : ∀ i (hi : i < es.toList.length), i ≠ j → es.toList[i].key ≠ .int .u32 q := fun i hi hij e => by
      rcases Nat.lt_or_gt_of_ne hij with h | h
      · exact hpw i j hi hjl h (by rw [e, hjv, g3])
      · exact hpw j i hjl hi h (by rw [e, hjv, g3])
    have hB : (es.toList.set j ⟨.int .u32 q, v, e0.born⟩).map (·.born) = es.toList.map (·.born) := by
      rw [List.map_set]
      have : (es.toList.map (·.born))[j]'(by simpa using hjs0) = e0.born := by rw [List.getElem_map, hjv]
      conv => lhs; arg 3; rw [← this]
      exact List.set_getElem_self _
    refine ⟨.map (es.modify j fun e => { e with key := .int .u32 q, val := v }) clock, ?_, ?_⟩
    · simp [Instr.mapUpdate, run_underlying ht, MapKept.run_getObj_map h1, u32Keyed.check w _ (u32_key hk), g1, hj, g3, u32Keyed.stays w (u32_key hk), Result.andThen, MapKept.run_setObj_map _ h1, ChangeMaps.setBlock]
    · refine ⟨⟨_, _, ChangeMaps.heap_setBlock_same h1 _, by rw [e2]; simpa using h2, ?_, fun y hy => ?_, fun z u hz => ?_, by rw [hL]; exact bd_of_map hB h6, by rw [hL, hB]; exact h7⟩⟩
      · rw [hL, List.pairwise_iff_getElem]
        intro i1 i2 hi1 hi2 hlt
        rw [List.length_set] at hi1 hi2
        rw [List.getElem_set, List.getElem_set]
        by_cases d1 : j = i1
        · rw [if_pos d1, if_neg (by omega)]
          exact fun e => hne i2 hi2 (by omega) e.symm
        · rw [if_neg d1]
          by_cases d2 : j = i2
          · rw [if_pos d2]
            exact hne i1 hi1 (fun e => d1 e.symm)
          · rw [if_neg d2]
            exact hpw i1 i2 hi1 hi2 hlt
      · rw [hL] at hy
        obtain ⟨i, hi, rfl⟩ := List.getElem_of_mem hy
        rw [List.length_set] at hi
        rw [List.getElem_set]
        by_cases d1 : j = i
        · rw [if_pos d1]
          exact ⟨q, hk, rfl, by unfold upM; rw [if_pos rfl]⟩
        · rw [if_neg d1]
          obtain ⟨q2, hq2, e3, e4⟩ := h4 _ (List.getElem_mem hi)
          refine ⟨q2, hq2, e3, ?_⟩
          unfold upM
          rw [if_neg (fun e => hne i hi (fun e => d1 e.symm) (by rw [e3, e]))]
          exact e4
      · unfold upM at hz
        rw [hL]
        by_cases e : z = q
        · rw [if_pos e] at hz
          injection hz with hz
          exact ⟨⟨.int .u32 q, v, e0.born⟩, List.mem_set hjl _, by rw [e], hz⟩
        · rw [if_neg e] at hz
          obtain ⟨y, hy, e3, e4⟩ := h5 z u hz
          obtain ⟨i, hi, rfl⟩ := List.getElem_of_mem hy
          have hij : j ≠ i := fun d => e (by
            subst d
            rw [hjv, g3] at e3
            injection e3 with _ e3
            exact e3.symm)
          refine ⟨es.toList[i], ?_, e3, e4⟩
          rw [List.mem_iff_getElem]
          exact ⟨i, by rw [List.length_set]; exact hi, by rw [List.getElem_set, if_neg hij]⟩
/-- a map deleted from -/
def rmM (m : Int → Option Value) (k z : Int) : Option Value := if z = k then none else m z
set_option maxRecDepth 100000 in
theorem MpAt.delete {w : World} {b : Nat} {m : Int → Option Value} {n : Nat} (h : MpAt w b m n) {t e ty kt : TypeId} (ht : Tryz.prog.underlying t = some (.map 22 e)) {k : Int} (hk : 0 ≤ k ∧ k < 4294967296) :
    ∃ x, (Builtin.delete_ #[t, kt] ty #[.map (some b), .int .u32 k]).run Tryz.prog w = .ok (.tuple #[]) (ChangeMaps.setBlock w b x) ∧ MpAt (ChangeMaps.setBlock w b x) b (rmM m k) (if (m k).isSome = true then n - 1 else n) := by
  obtain ⟨es, clock, h1, h2, h3, h4, h5, h6, h7⟩ := h.es
  have hkeys : ∀ y ∈ es.toList, ∃ l, keyOf Tryz.prog 22 y.key = some l := fun y hy => by
    obtain ⟨q, hq, e1, -⟩ := h4 y hy
    exact ⟨_, by rw [e1]; exact u32_key hq⟩
  rcases u32Keyed.find w (u32_key hk) es.toList hkeys with ⟨g1, g2⟩ | ⟨j, e0, g1, g2, g3⟩
  · have hm : m k = none := by
      rcases hq : m k with _ | v
      · rfl
      · obtain ⟨e0, he, e1, -⟩ := h5 k v hq
        exact absurd e1 (g2 e0 he)
    refine ⟨.map es clock, ?_, ?_⟩
    · simp [Builtin.delete_, run_underlying ht, MapKept.run_getObj_map h1, u32Keyed.check w _ (u32_key hk), g1, Result.andThen, MapKept.run_setObj_map _ h1, ChangeMaps.setBlock]
    · refine ⟨⟨es, clock, ChangeMaps.heap_setBlock_same h1 _, by rw [hm]; simpa using h2, h3, fun y hy => ?_, fun z u hz => ?_, h6, h7⟩⟩
      · obtain ⟨q, hq, e1, e2⟩ := h4 y hy
        refine ⟨q, hq, e1, ?_⟩
        unfold rmM
        rw [if_neg (fun e => g2 y hy (by rw [e1, e]))]
        exact e2
      · unfold rmM at hz
        by_cases e : z = k
        · rw [if_pos e] at hz; cases hz
        · rw [if_neg e] at hz; exact h5 z u hz
  · have hmem := List.mem_of_getElem? g2
    obtain ⟨q, hq, e1, e2⟩ := h4 e0 hmem
    have hqk : q = k := by
      rw [g3] at e1
      injection e1 with _ e1
      exact e1.symm
    subst hqk
    have hjl : j < es.toList.length := (List.getElem?_eq_some_iff.1 g2).1
    have hjv : es.toList[j] = e0 := (List.getElem?_eq_some_iff.1 g2).2
    have hjs : j < es.size := by simpa using hjl
    have hL : (es.eraseIdxIfInBounds j).toList = es.toList.eraseIdx j := by
      simp [Array.eraseIdxIfInBounds, hjs]
    have hpw := List.pairwise_iff_getElem.1 h3
    have hne : ∀ i (hi : i < es.toList.length), i ≠ j → es.toList[i].key ≠ .int .u32 q := fun i hi hij e => by
      rcases Nat.lt_or_gt_of_ne hij with h | h
      · exact hpw i j hi hjl h (by rw [e, hjv, g3])
      · exact hpw j i hjl hi h (by rw [e, hjv, g3])
    refine ⟨.map (es.eraseIdxIfInBounds j) clock, ?_, ?_⟩
    · simp [Builtin.delete_, run_underlying ht, MapKept.run_getObj_map h1, u32Keyed.check w _ (u32_key hk), g1, Result.andThen, MapKept.run_setObj_map _ h1, ChangeMaps.setBlock]
    · refine ⟨⟨_, _, ChangeMaps.heap_setBlock_same h1 _, ?_, ?_, fun y hy => ?_, fun z u hz => ?_, fun y hy => h6 y (by rw [hL] at hy; exact List.mem_of_mem_eraseIdx hy), by rw [hL]; exact h7.sublist ((List.eraseIdx_sublist _ _).map _)⟩⟩
      · rw [e2]
        have h9 : (es.eraseIdxIfInBounds j).toList.length = es.toList.length - 1 := by rw [hL, List.length_eraseIdx, if_pos hjl]
        rw [Array.length_toList, Array.length_toList, h2] at h9
        rw [h9]
        rfl
      · rw [hL]
        exact h3.sublist (List.eraseIdx_sublist _ _)
      · rw [hL, List.mem_eraseIdx_iff_getElem] at hy
        obtain ⟨i, hi, hij, rfl⟩ := hy
        obtain ⟨q2, hq2, e3, e4⟩ := h4 _ (List.getElem_mem hi)
        refine ⟨q2, hq2, e3, ?_⟩
        unfold rmM
        rw [if_neg (fun e => hne i hi hij (by rw [e3, e]))]
        exact e4
      · unfold rmM at hz
        by_cases e : z = q
        · rw [if_pos e] at hz; cases hz
        · rw [if_neg e] at hz
          obtain ⟨y, hy, e3, e4⟩ := h5 z u hz
          obtain ⟨i, hi, rfl⟩ := List.getElem_of_mem hy
          have hij : i ≠ j := fun d => e (by
            subst d
            rw [hjv, g3] at e3
            injection e3 with _ e3
            exact e3.symm)
          refine ⟨es.toList[i], ?_, e3, e4⟩
          rw [hL, List.mem_eraseIdx_iff_getElem]
          exact ⟨i, hi, hij, rfl⟩
end Go.Proofs.YtbfifppdcmimaaaGreat
