/-
  Maps keyed by 32-bit numbers: ranged over, cleared. Nothing of one statement alone stands here.
-/
import Derived.Test.YtbfifppdcmimaaaGreatFtMap
import Derived.Maps.RangeRun
import Derived.MapKept
namespace Go.Proofs.YtbfifppdcmimaaaGreat
open Go.RowKit Go.Maps

theorem MpAt.kp {F : Nat → Prop} {w w' : World} {b : Nat} {m : Int → Option Value} {n : Nat} (h : MpAt w b m n) (hk : Kp F w w') (hb : ¬ F b) : MpAt w' b m n := by
  have hlt := h.lt
  obtain ⟨es, clock, h1, h2⟩ := h.es
  exact ⟨es, clock, (hk.block b hlt hb).trans h1, h2⟩
theorem MpAt.drew {w : World} {b : Nat} {m : Int → Option Value} {n : Nat} (h : MpAt w b m n) : MpAt w.drew b m n := h.kp (F := fun _ => False) ((Kp.refl _ w).drew) (fun e => e)
/-- a map under a range: what is still to come -/
structure RgAt (w : World) (b r : Nat) (m : Int → Option Value) (n : Nat) (left : Int → Bool) (cnt : Nat) : Prop where
  mp : MpAt w b m n
  es : ∃ (es : Array MapEntry) (clock since : Nat) (seen : Array Nat) (c0 : Nat), w.heap[b]? = some (.map es clock) ∧ w.heap[r]? = some (.mapIter (some b) since seen c0) ∧ (∀ x ∈ es.toList, x.born < since) ∧ (leftOf es seen).size = cnt ∧
    (∀ x ∈ es.toList, ∀ z, x.key = .int .u32 z → left z = !seen.contains x.born) ∧ (∀ z, left z = true → (m z).isSome = true) ∧ since ≤ c0 ∧ since ≤ clock
/-- how many are still to come, by what stands in memory -/
def rgL (w : World) (b r : Nat) : Nat :=
  match w.heap[b]?, w.heap[r]? with
  | some (.map es _), some (.mapIter _ _ seen _) => (leftOf es seen).size
  | _, _ => 0
theorem RgAt.left_eq {w : World} {b r : Nat} {m : Int → Option Value} {n : Nat} {left : Int → Bool} {cnt : Nat} (h : RgAt w b r m n left cnt) : rgL w b r = cnt := by
  obtain ⟨es, clock, since, seen, c0, h1, h2, -, h4, -⟩ := h.es
  simp only [rgL, h1, h2]
  exact h4
theorem RgAt.lt {w : World} {b r : Nat} {m : Int → Option Value} {n : Nat} {left : Int → Bool} {cnt : Nat} (h : RgAt w b r m n left cnt) : r < w.heap.size := by
  obtain ⟨es, clock, since, seen, c0, h1, h2, -⟩ := h.es
  rcases Nat.lt_or_ge r w.heap.size with h | h
  · exact h
  · rw [Array.getElem?_eq_none h] at h2; cases h2
theorem RgAt.ne {w : World} {b r : Nat} {m : Int → Option Value} {n : Nat} {left : Int → Bool} {cnt : Nat} (h : RgAt w b r m n left cnt) : b ≠ r := by
  obtain ⟨es, clock, since, seen, c0, h1, h2, -⟩ := h.es
  intro e
  subst e
  rw [h1] at h2
  cases h2
theorem RgAt.kp {F : Nat → Prop} {w w' : World} {b r : Nat} {m : Int → Option Value} {n : Nat} {left : Int → Bool} {cnt : Nat} (h : RgAt w b r m n left cnt) (hk : Kp F w w') (hb : ¬ F b) (hr : ¬ F r) : RgAt w' b r m n left cnt := by
  have hlt := h.lt
  have hlb := h.mp.lt
  obtain ⟨es, clock, since, seen, c0, h1, h2, h3⟩ := h.es
  exact ⟨h.mp.kp hk hb, es, clock, since, seen, c0, (hk.block b hlb hb).trans h1, (hk.block r hlt hr).trans h2, h3⟩
theorem RgAt.below {w w' : World} {b r : Nat} {m : Int → Option Value} {n : Nat} {left : Int → Bool} {cnt : Nat} (h : RgAt w b r m n left cnt) (hk : Below w.heap.size w w') : RgAt w' b r m n left cnt :=
  h.kp (F := fun _ => False) (Kp.of_below hk) (fun e => e) (fun e => e)
set_option maxRecDepth 100000 in
theorem MpAt.range {w : World} {b : Nat} {m : Int → Option Value} {n : Nat} (h : MpAt w b m n) {t e : TypeId} (ht : Tryz.prog.underlying t = some (.map 22 e)) :
    ∃ o, (Instr.range t (.map (some b))).run Tryz.prog w = .ok (.pointer (some ⟨w.heap.size, 0, none⟩)) (w.alloc o) ∧ RgAt (w.alloc o) b w.heap.size m n (fun z => (m z).isSome) n := by
  have hlt := h.lt
  have hM := h
  obtain ⟨es, clock, h1, h2, h3, h4, h5, h6, h7⟩ := h.es
  have hB : Below w.heap.size w (w.alloc (.mapIter (some b) clock #[] clock)) := (Below.refl _ _).alloc (Nat.le_refl _) _
  refine ⟨_, run_range_map w t _ e b es clock ht h1, hM.below hB, es, clock, clock, #[], clock, (hB.block b hlt).trans h1, heap_alloc_new w _, h6, ?_, fun x hx z hz => ?_, fun z hz => hz, Nat.le_refl _, Nat.le_refl _⟩
  · have e1 : leftOf es #[] = es := Array.filter_eq_self.2 (fun x _ => by simp)
    rw [e1, h2]
  · obtain ⟨q, hq, e1, e2⟩ := h4 x hx
    rw [hz] at e1
    injection e1 with _ e1
    subst e1
    have e3 : (#[] : Array Nat).contains x.born = false := Array.contains_empty
    rw [e2, e3]
    rfl
set_option maxRecDepth 100000 in
theorem RgAt.next {w : World} {b r : Nat} {m : Int → Option Value} {n : Nat} {left : Int → Bool} {cnt : Nat} (h : RgAt w b r m n left cnt) :
    (cnt = 0 ∧ (∀ z, left z = false) ∧ ∀ ty, (Instr.next (.pointer (some ⟨r, 0, none⟩)) false ty).run Tryz.prog w = .ok (.tuple #[.bool false]) w) ∨
    ∃ z v w' cnt', left z = true ∧ m z = some v ∧ (0 ≤ z ∧ z < 4294967296) ∧ (∀ ty, (Instr.next (.pointer (some ⟨r, 0, none⟩)) false ty).run Tryz.prog w = .ok (.tuple #[.bool true, .int .u32 z, v]) w') ∧
      RgAt w' b r m n (fun x => left x && x != z) cnt' ∧ cnt' < cnt ∧ Kp (fun i => i = r) w w' ∧ w'.heap.size = w.heap.size ∧ (Instr.entry (.pointer (some ⟨r, 0, none⟩))).run Tryz.prog w' = .ok (.tuple #[.int .u32 z, v]) w' := by
  have hne := h.ne
  have hM := h.mp
  obtain ⟨es, clock, since, seen, c0, hb, hr, hold, rfl, hl1, hl2, hsc, hsk⟩ := h.es
  obtain ⟨es', clock', h1, h2, h3, h4, h5, h6, h7⟩ := hM.es
  have e0 : es' = es ∧ clock' = clock := by
    rw [hb] at h1
    injection h1 with h1
    injection h1 with e1 e2
    exact ⟨e1.symm, e2.symm⟩
  obtain ⟨rfl, rfl⟩ := e0
  rcases run_next_at (P := Tryz.prog) w 0 r b since c0 seen es' clock' hr hb hold hsc with ⟨h0, hrun⟩ | ⟨e, he, w1, hal, hrun⟩
  · refine Or.inl ⟨h0, fun z => ?_, fun ty => hrun⟩
    cases hk : left z
    · rfl
    · have := hl2 z hk
      obtain ⟨v, hv⟩ := Option.isSome_iff_exists.1 this
      obtain ⟨x, hx, e1, -⟩ := h5 z v hv
      rw [hl1 x hx z e1, all_seen es' seen h0 x hx] at hk
      cases hk
  · obtain ⟨hem, hes⟩ := mem_left he
    obtain ⟨z, hz, e1, e2⟩ := h4 e hem
    have hr1 : w1.heap[r]? = some (.mapIter (some b) since seen c0) := by rcases hal with rfl | rfl <;> exact hr
    have hb1 : w1.heap[b]? = some (.map es' clock') := by rcases hal with rfl | rfl <;> exact hb
    have hset := MapKept.heap_set (o' := .mapIter (some b) since (seen.push e.born) clock') hr1
    have hb' : (ChangeMaps.setBlock w1 r (.mapIter (some b) since (seen.push e.born) clock')).heap[b]? = some (.map es' clock') := (hset.2 b hne).trans hb1
    have hK : Kp (fun i => i = r) w (ChangeMaps.setBlock w1 r (.mapIter (some b) since (seen.push e.born) clock')) := by
      rcases hal with rfl | rfl
      · exact kp_block
      · exact ((Kp.refl _ w).drew).trans kp_block
    have hen := run_entry_at (P := Tryz.prog) _ r b since seen es' clock' e hset.1 hb' hem h7
    rw [e1] at hrun hen
    refine Or.inr ⟨z, e.val, _, _, ?_, e2, hz, fun ty => hrun, ⟨hM.kp hK hne, es', clock', since, seen.push e.born, clock', hb', hset.1, hold, rfl, fun x hx y hy => ?_, fun y hy => ?_, hsk, hsk⟩, left_shrinks es' seen e he, hK, ?_, hen⟩
    · rw [hl1 e hem z e1, hes]; rfl
    · show (left y && y != z) = _
      rw [hl1 x hx y hy, contains_push]
      have hiff : (x.born == e.born) = (y == z) := by
        by_cases hyz : y = z
        · subst hyz
          have : x = e := by
            by_cases hxe : x = e
            · exact hxe
            · exfalso
              obtain ⟨i, hi, rfl⟩ := List.getElem_of_mem hx
              obtain ⟨j, hj, rfl⟩ := List.getElem_of_mem hem
              have hpw := List.pairwise_iff_getElem.1 h3
              rcases Nat.lt_trichotomy i j with hij | hij | hij
              · exact hpw i j hi hj hij (by rw [hy, e1])
              · subst hij; exact hxe rfl
              · exact hpw j i hj hi hij (by rw [hy, e1])
          subst this
          simp
        · have : x.born ≠ e.born := fun hb => by
            have := born_inj h7 hx hem hb
            subst this
            rw [e1] at hy
            injection hy with _ hy
            exact hyz hy.symm
          rw [beq_false_of_ne this, beq_false_of_ne hyz]
      rw [hiff]
      cases seen.contains x.born <;> cases hq : (y == z) <;> simp [bne, hq]
    · simp only [Bool.and_eq_true] at hy
      exact hl2 y hy.1
    · rcases hal with rfl | rfl <;> simp [ChangeMaps.setBlock]
set_option maxRecDepth 100000 in
theorem MpAt.clear {w : World} {b : Nat} {m : Int → Option Value} {n : Nat} (h : MpAt w b m n) {t e ty : TypeId} (ht : Tryz.prog.underlying t = some (.map 22 e)) :
    ∃ x, (Builtin.clear_ #[t] ty #[.map (some b)]).run Tryz.prog w = .ok (.tuple #[]) (ChangeMaps.setBlock w b x) ∧ MpAt (ChangeMaps.setBlock w b x) b (fun _ => none) 0 := by
  obtain ⟨es, clock, h1, -⟩ := h.es
  refine ⟨.map #[] clock, ?_, ⟨#[], clock, ChangeMaps.heap_setBlock_same h1 _, rfl, by simp, by simp, by simp, by simp, by simp⟩⟩
  simp [Builtin.clear_, run_underlying ht, MapKept.run_getObj_map h1, Result.andThen, MapKept.run_setObj_map _ h1, ChangeMaps.setBlock]
end Go.Proofs.YtbfifppdcmimaaaGreat
