/-
  The bytes of an inode: what the document's Write answers.
-/
import Derived.Test.YtladgfonkolpmaaInoRefR
import Derived.Test.YtladgfonkolpmaaInoGet
namespace Go.Proofs.Ytladgfonkolpmaa
open Go.RowKit Crcm Tagm Inom Go.ChangeShapes

set_option maxRecDepth 100000 in
/-- append of bytes onto a row of the call's own, and where the row lies behind it -/
theorem append_at {w : World} {ops : Array Oper} {rest : List Oper} {o : Oper} {a : Act} {Q : Exit → Act → World → Prop} (hgd : o.guard = none) (s x : Operand)
    (ho : o.op = .call { callee := .builtin .append, args := #[s, x], argTypes := #[22, 22] })
    (base : Nat) (v : Value) (n : Nat) (xs : List Int) (hs : a.eval s = v) (hown : w.ownsRow base 5 1 v n (xs.map (Value.int .u8)))
    (b off : Nat) (m c : Nat) (l : List Int) (hx : a.eval x = .slice (some ⟨b, off, none⟩) m c) (hl : l.length = m) (hr : Rw w (some ⟨b, off, none⟩) l) (h63 : n + m ≤ 1000000) (hbase : base ≤ w.heap.size)
    (h : ∀ v' w', w'.ownsRow base 5 1 v' (n + m) ((xs ++ l).map (Value.int .u8)) → Below base w w' → w.grownBy w' v.ownBlock → (v'.ownBlock = v.ownBlock ∨ v'.ownBlock = some w.heap.size) → wpList Try.prog ops Q rest (a.put o.dst v') w') : wpList Try.prog ops Q (o :: rest) a w := by
  obtain ⟨i0, hi, hz0, hz1, hz2⟩ := info_parts Try.info8
  refine wpList_append_own_at w hgd s x 22 ho base 5 i0 (.int .u8 0) 1 1 Try.underlying22 hi hz0 hz1 hz2 rfl (by decide) v n _ hs hown ⟨b, off, none⟩ m c (l.map (Value.int .u8)) hx (by simp [hl]) ?_ ?_ (by unfold maxLen; omega) (by omega) hbase ?_
  · intro j u hu
    rw [List.getElem?_map] at hu
    by_cases hj : j < l.length
    · rcases hr.2.2 with h0 | ⟨b', o', e, hc⟩
      · exact absurd hj (by rw [h0]; exact Nat.not_lt_zero _)
      · injection e with e; injection e with e1 e2; subst e1 e2
        rw [show (⟨b, off, none⟩ : Addr).add j = ⟨b, off + j, none⟩ by simp [Addr.add], hc j hj]
        simpa [List.getD_eq_getElem?_getD, hj] using hu
    · simp [List.getElem?_eq_none (by omega : l.length ≤ j)] at hu
  · intro u hu; obtain ⟨n, -, rfl⟩ := List.mem_map.1 hu; rfl
  · intro v' w' h1 h2 _ h4
    rw [← List.map_append] at h1
    exact h v' w' h1 ((Below.refl _ _).grown h2 hbase (fun g hg => (hown.lt g hg).1)) h2 h4

/-- what stands while the document writes an inode's bytes: the inode's own block, its pointers' block, the row so far -/
structure Vst (w W : World) (cs : Array Value) (g : Nat) (ps : Array Value) (v : Value) (n : Nat) (xs : List Int) : Prop where
  a : Blk W w.heap.size 65 cs
  o : W.ownsRow (w.heap.size + 1) 5 1 v n (xs.map (Value.int .u8))
  b : Below w.heap.size w W
  s : w.heap.size + 1 ≤ W.heap.size
  p : Blk W g 3 ps
  d : v.ownBlock ≠ some g
theorem Vst.big {w W W' : World} {cs ps : Array Value} {g : Nat} {v : Value} {n : Nat} {xs : List Int} (h : Vst w W cs g ps v n xs) (hb : Below W.heap.size W W') : Vst w W' cs g ps v n xs :=
  ⟨h.a.below hb h.a.lt, own_below h.o hb, h.b.trans (hb.mono h.b.size), Nat.le_trans h.s hb.size, h.p.below hb h.p.lt, h.d⟩
theorem Vst.app {w W W' : World} {cs ps : Array Value} {g : Nat} {v v' : Value} {n n' : Nat} {xs xs' : List Int} (h : Vst w W cs g ps v n xs) (ho : W'.ownsRow (w.heap.size + 1) 5 1 v' n' (xs'.map (Value.int .u8))) (hb : Below (w.heap.size + 1) W W') (hg : W.grownBy W' v.ownBlock) (hl : v'.ownBlock = v.ownBlock ∨ v'.ownBlock = some W.heap.size) : Vst w W' cs g ps v' n' xs' := by
  refine ⟨h.a.below hb (Nat.lt_succ_self _), ho, h.b.trans (hb.mono (Nat.le_succ _)), Nat.le_trans h.s hb.size, (hg.block g h.p.lt fun e => h.d e.symm).trans h.p, ?_⟩
  rcases hl with e | e
  · rw [e]; exact h.d
  · rw [e]; intro q; injection q with q; have := h.p.lt; omega

theorem u64same {n : Int} (h : U64 n) : IntKind.u64.wrap n = n := by obtain ⟨a, b⟩ := h; rw [IntKind.wrap_u64]; omega

end Go.Proofs.Ytladgfonkolpmaa
