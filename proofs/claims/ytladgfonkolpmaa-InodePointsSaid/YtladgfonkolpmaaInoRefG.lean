/-
  Inodes got from table pages and put there: the document's answers.
-/
import Derived.Test.YtladgfonkolpmaaInoBytesW
import Derived.Test.YtladgfonkolpmaaInoGet
import Derived.Deep.RegionLaw
namespace Go.Proofs.Ytladgfonkolpmaa
open Go.RowKit Crcm Tagm Inom Go.ChangeShapes

theorem wp_append_bytes {w : World} {o : Oper} {a : Act} {K : Act → World → Prop} {Q : Exit → Act → World → Prop} (s x : Operand)
    (ho : o.op = .call { callee := .builtin .append, args := #[s, x], argTypes := #[22, 22] })
    (base : Nat) (v : Value) (n : Nat) (xs : List Int) (hs : a.eval s = v) (hown : w.ownsRow base 5 1 v n (xs.map (Value.int .u8)))
    (A : Option Addr) (m c : Nat) (l : List Int) (hx : a.eval x = .slice A m c) (hl : l.length = m) (hsrc : Src w A l) (h63 : n + m ≤ 1000000) (hbase : base ≤ w.heap.size)
    (h : ∀ v' w', w'.ownsRow base 5 1 v' (n + m) ((xs ++ l).map (Value.int .u8)) → Below base w w' → K (a.put o.dst v') w') : o.wp Try.prog a w K Q := by
  obtain ⟨i0, hi, hz0, hz1, hz2⟩ := info_parts Try.info8
  rcases hsrc with ⟨rfl, rfl⟩ | ⟨ad, rfl, hc⟩
  · simp at hl
    subst hl
    exact wp_append_nothing s x 22 ho base 5 i0 1 Try.underlying22 hi v n _ hs hown c hx (h v w (by simpa using hown) (Below.refl _ _))
  · refine wp_append_own w s x 22 ho base 5 i0 (.int .u8 0) 1 1 Try.underlying22 hi hz0 hz1 hz2 rfl (by decide) v n _ hs hown ad m c (l.map (Value.int .u8)) hx (by simp [hl]) ?_ ?_ (by unfold maxLen; omega) (by omega) hbase ?_
    · intro j u hu
      rw [List.getElem?_map] at hu
      by_cases hj : j < l.length
      · rw [hc j hj]
        simpa [hj] using hu
      · simp [List.getElem?_eq_none (by omega : l.length ≤ j)] at hu
    · intro u hu; obtain ⟨n, -, rfl⟩ := List.mem_map.1 hu; rfl
    · intro v' w' h1 h2 _
      rw [← List.map_append] at h1
      exact h v' w' h1 ((Below.refl _ _).grown h2 hbase (fun g hg => (hown.lt g hg).1))

/-- an append of bytes onto a row of the call's own, as one step of a region that draws -/
theorem step_bytes {ops : Array Oper} {o : Oper} {a : Act} {w : World} {K : Act → World → Prop} {Q : Exit → Act → World → Prop} {E : Prop}
    (hg : o.guard = none) (s x : Operand) (hop : o.op = Op.call { callee := Callee.builtin Builtin.append, args := #[s, x], argTypes := #[22, 22] })
    (base : Nat) (v : Value) (n : Nat) (xs : List Int) (hs : a.eval s = v) (hown : w.ownsRow base 5 1 v n (xs.map (Value.int .u8)))
    (A : Option Addr) (m c : Nat) (l : List Int) (hx : a.eval x = .slice A m c) (hl : l.length = m) (hsrc : Src w A l) (h63 : n + m ≤ 1000000) (hbase : base ≤ w.heap.size)
    (hK : ∀ v' w', w'.ownsRow base 5 1 v' (n + m) ((xs ++ l).map (Value.int .u8)) → Below base w w' → K (a.put o.dst v') w') :
    if Region.wanted o (yielded ops a.tmps) = true then Oper.wp Try.prog o a w K Q else E := by
  have hw : Region.wanted o (yielded ops a.tmps) = true := by simp [Region.wanted, hg]
  rw [if_pos hw]
  exact wp_append_bytes s x hop base v n xs hs hown A m c l hx hl hsrc h63 hbase hK

theorem elem8 : Try.prog.elem 22 = 5 := by simp [Program.elem, Try.underlying22]
theorem rest_mv (b off len cap x : Nat) (X : Int) (hx : X = (x : Int)) (h1 : x ≤ len) (W : World) :
    (Instr.slice 22 (.slice (some ⟨b, off, none⟩) len cap) (some (.int .i64 X)) none none).run Try.prog W = .ok (.slice (mv (some ⟨b, off, none⟩) cap x) (len - x) (cap - x)) W := by
  subst hx
  have he : Try.prog.underlying 22 = some (.slice (Try.prog.elem 22)) := by rw [elem8, Try.underlying22]
  rw [run_slice_l W _ _ _ _ he .i64 _ (by omega) (by omega), elem8, Try.size8]
  unfold mv
  by_cases hne : cap = x <;> simp [Result.andThen, sliced, hne, Go.WideShapes.add_plain]
theorem top_at (b off len cap x : Nat) (X : Int) (hx : X = (x : Int)) (h1 : x ≤ cap) (W : World) :
    (Instr.slice 22 (.slice (some ⟨b, off, none⟩) len cap) none (some (.int .i64 X)) none).run Try.prog W = .ok (.slice (some ⟨b, off, none⟩) x cap) W := by
  subst hx
  have he : Try.prog.underlying 22 = some (.slice (Try.prog.elem 22)) := by rw [elem8, Try.underlying22]
  rw [run_slice_h W _ _ _ _ he .i64 _ (by omega) (by omega), elem8, Try.size8]
  simp [Result.andThen, sliced, Addr.add]

end Go.Proofs.Ytladgfonkolpmaa
