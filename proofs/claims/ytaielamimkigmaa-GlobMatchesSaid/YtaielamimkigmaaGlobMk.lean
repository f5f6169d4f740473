/-
  The document's marks: rows of them.
-/
import Derived.Test.YtaielamimkigmaaGlobGrp
import Derived.Test.YtaielamimkigmaaGlobRows
import Derived.Great.BuildSlice
namespace Go.Proofs.Ytaielamimkigmaa
open Go.RowKit Go.ChangeShapes Globm Go.ChangeMaps

/-- a mark, as a value -/
def gmk (x : Mk Nat) : Array Value := mA x.run (ps x)
/-- the cells of marks -/
def mcl (l : List (Mk Nat)) : List Value := l.flatMap fun x => (gmk x).toList
theorem mcl_snoc (l : List (Mk Nat)) (x : Mk Nat) : mcl (l ++ [x]) = mcl l ++ (gmk x).toList := by simp [mcl]
theorem gmk_size (x : Mk Nat) : (gmk x).size = 257 := mA_size _ _
theorem mcl_len : ∀ (l : List (Mk Nat)), (mcl l).length = l.length * 257
  | [] => rfl
  | x :: l => by
    show ((gmk x).toList ++ mcl l).length = _
    rw [List.length_append, mcl_len l, Array.length_toList, gmk_size, List.length_cons]; omega
theorem mcl_at : ∀ (l : List (Mk Nat)) (j : Nat) (x : Mk Nat) (c : Nat), l[j]? = some x → c < 257 → (mcl l)[j * 257 + c]? = (gmk x)[c]?
  | [], j, x, c, h, _ => by simp at h
  | y :: l, 0, x, c, h, hc => by
    simp only [List.getElem?_cons_zero, Option.some.injEq] at h
    subst h
    show ((gmk y).toList ++ mcl l)[0 * 257 + c]? = _
    rw [Nat.zero_mul, Nat.zero_add, List.getElem?_append_left (by rw [Array.length_toList, gmk_size]; exact hc), Array.getElem?_toList]
  | y :: l, j + 1, x, c, h, hc => by
    simp only [List.getElem?_cons_succ] at h
    show ((gmk y).toList ++ mcl l)[(j + 1) * 257 + c]? = _
    rw [List.getElem?_append_right (by rw [Array.length_toList, gmk_size]; omega), show (j + 1) * 257 + c - (gmk y).toList.length = j * 257 + c by rw [Array.length_toList, gmk_size]; omega]
    exact mcl_at l j x c h hc
theorem infoMark : (Try.prog.info? 84).map (fun i => (i.zero, i.size, i.bytes)) = some (some (.agg Try.zeroCells84), 257, 257) := by kernel_rfl
/-- a mark is put behind the others -/
theorem appM {w : World} {ops : Array Oper} {rest : List Oper} {o : Oper} {a : Act} {Q : Exit → Act → World → Prop} (hgd : o.guard = none) (s x : Operand)
    (ho : o.op = .call { callee := .builtin .append, args := #[s, x], argTypes := #[43, 43] })
    (base : Nat) (v : Value) (n : Nat) (xs : List Value) (hs : a.eval s = v) (hown : w.ownsRow base 84 257 v n xs)
    (g : Nat) (c : Nat) (y : Mk Nat) (hx : a.eval x = .slice (some ⟨g, 0, none⟩) 1 c) (hb : Blk w g 84 (gmk y)) (h63 : n + 1 ≤ 1000) (hbase : base ≤ w.heap.size)
    (h : ∀ v' w', w'.ownsRow base 84 257 v' (n + 1) (xs ++ (gmk y).toList) → Below base w w' → w.grownBy w' v.ownBlock → wpList Try.prog ops Q rest (a.put o.dst v') w') : wpList Try.prog ops Q (o :: rest) a w := by
  obtain ⟨i0, hi, hz0, hz1, hz2⟩ := info_parts infoMark
  refine wpList_append_own_at w hgd s x 43 ho base 84 i0 _ 257 257 Try.underlying43 hi hz0 hz1 hz2 (by rw [zero84]; show (mA false _).size = 257; exact mA_size _ _) (by decide) v n _ hs hown ⟨g, 0, none⟩ 1 c (gmk y).toList hx (by rw [Array.length_toList, gmk_size]) ?_ ?_ (by unfold maxLen; omega) (by omega) hbase ?_
  · intro j u hu
    have := hb.cell j
    rw [Addr.add_lit, Nat.zero_add, this]
    simpa using hu
  · intro u hu
    have h := mA_one y.run (ps y)
    rw [Array.all_eq_true_iff_forall_mem] at h
    exact h u (by simpa [gmk] using hu)
  · intro v' w' h1 h2 _ h4
    exact h v' w' h1 ((Below.refl _ _).grown h2 hbase (fun g hg => (hown.lt g hg).1)) h2
/-- a row of one mark is made -/
theorem buildM {w : World} {ops : Array Oper} {rest : List Oper} {o : Oper} {a : Act} {Q : Exit → Act → World → Prop} (hgd : o.guard = none) (x : Operand)
    (ho : o.op = .buildSlice 43 1 #[(0, x)]) (y : Mk Nat) (hx : a.eval x = .agg (gmk y))
    (h : wpList Try.prog ops Q rest (a.put o.dst (.slice (some ⟨w.heap.size, 0, none⟩) 1 1)) (w.alloc (.cells (gmk y) 84))) : wpList Try.prog ops Q (o :: rest) a w := by
  obtain ⟨i0, hi, hz0, hz1, hz2⟩ := info_parts infoMark
  refine wpList_buildSlice hgd 43 84 1 _ ho (gmk y) i0 _ Try.underlying43 hi hz0 (by rw [hz1]; decide) (by rw [hz1]; decide) ?_ h
  rw [hz1]
  have := Great.fill_whole (s := 257) (by decide) [.agg (gmk y)] ((Array.range (1 * 257)).map ((Value.agg Try.zeroCells84).cells[· % (Value.agg Try.zeroCells84).cells.size]!)) (by intro v hv; obtain rfl := List.mem_singleton.1 hv; exact gmk_size y) (by simp)
  simpa [hx, Value.cells] using this
end Go.Proofs.Ytaielamimkigmaa
