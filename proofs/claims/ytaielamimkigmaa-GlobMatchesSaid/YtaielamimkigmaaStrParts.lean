/-
  A text's parts: the document's answer. Nothing of one statement alone stands here.
-/
import Derived.Test.YtaielamimkigmaaStrName
import Derived.Laws.AppendOwnNone
namespace Go.Proofs.Ytaielamimkigmaa
open Go.RowKit Go.ChangeShapes

/-- the parts found ahead of a place, and where the next one begins -/
def st (s : ByteArray) : Nat → List ByteArray × Nat
  | 0 => ([], 0)
  | i + 1 => if i = s.size ∨ s.data.toList[i]? = some 47 then ((if (st s i).2 < i then (st s i).1 ++ [s.extract (st s i).2 i] else (st s i).1), i + 1) else st s i
theorem st_le (s : ByteArray) (i : Nat) : (st s i).2 ≤ i := by
  induction i with
  | zero => exact Nat.le_refl _
  | succ i ih =>
    simp only [st]
    split
    · exact Nat.le_refl _
    · omega
theorem st_few (s : ByteArray) (i : Nat) : (st s i).1.length ≤ i := by
  induction i with
  | zero => exact Nat.le_refl _
  | succ i ih =>
    simp only [st]
    split
    · split
      · simp; omega
      · show (st s i).1.length ≤ i + 1
        omega
    · omega
/-- a text's parts -/
def parts (s : ByteArray) : List ByteArray := (st s (s.size + 1)).1

theorem Try.infoS : (Try.prog.info? 9).map (fun i => (i.zero, i.size, i.bytes)) = some (some (.string ⟨#[]⟩), 1, 16) := by kernel_rfl
theorem infoS_parts : ∃ i, Try.prog.info? 9 = some i ∧ i.zero = some (.string ⟨#[]⟩) ∧ i.size = 1 ∧ i.bytes = 16 := by
  have h := Try.infoS
  cases hi : Try.prog.info? 9 with
  | none => rw [hi] at h; cases h
  | some i =>
    rw [hi] at h
    simp only [Option.map_some, Option.some.injEq, Prod.mk.injEq] at h
    exact ⟨i, rfl, h.1, h.2.1, h.2.2⟩

/-- append of one text that lies in memory onto a row of the call's own -/
theorem append_text {w : World} {ops : Array Oper} {rest : List Oper} {o : Oper} {a : Act} {Q : Exit → Act → World → Prop} (hgd : o.guard = none) (s x : Operand)
    (ho : o.op = .call { callee := .builtin .append, args := #[s, x], argTypes := #[27, 27] })
    (base : Nat) (v : Value) (k : Nat) (l : List ByteArray) (hs : a.eval s = v) (hown : w.ownsRow base 9 1 v k (l.map Value.string))
    (b c : Nat) (y : ByteArray) (hx : a.eval x = .slice (some ⟨b, 0, none⟩) 1 c) (hk : k ≤ 1000000) (hc : w.cell? ⟨b, 0, none⟩ = some (.string y)) (hbase : base ≤ w.heap.size)
    (h : ∀ v' w', w'.ownsRow base 9 1 v' (k + 1) ((l ++ [y]).map Value.string) → Below base w w' → wpList Try.prog ops Q rest (a.put o.dst v') w') : wpList Try.prog ops Q (o :: rest) a w := by
  obtain ⟨i0, hi, hz0, hz1, hz2⟩ := infoS_parts
  refine wpList_append_own w hgd s x 27 ho base 9 i0 _ 1 16 Try.underlying27 hi hz0 hz1 hz2 rfl (by decide) v k _ hs hown ⟨b, 0, none⟩ 1 c [.string y] hx rfl ?_ (by simp [Value.oneCell']) (by unfold maxLen; omega) (by omega) hbase ?_
  · intro j u hu
    rw [Addr.add_lit]
    match j, hu with
    | 0, hu => simp only [List.getElem?_cons_zero, Option.some.injEq] at hu; rw [← hu]; exact hc
    | j + 1, hu => simp at hu
  · intro v' w' h1 h2 _
    have e : l.map Value.string ++ [Value.string y] = (l ++ [y]).map Value.string := by simp
    rw [e] at h1
    exact h v' w' h1 ((Below.refl _ w).grown h2 hbase (fun g hg => (hown.lt g hg).1))

/-- a row of the call's own as a row -/
theorem own_rs {w : World} {base k : Nat} {v : Value} {l : List ByteArray} (h : w.ownsRow base 9 1 v k (l.map Value.string)) (hz : ∀ x ∈ l, x.size ≤ maxLen) :
    ∃ a c, v = .slice a k c ∧ Rs w a l ∧ l.length = k ∧ k ≤ c := by
  obtain ⟨hlen, h⟩ := h
  rw [List.length_map] at hlen
  rcases h with ⟨rfl, rfl⟩ | ⟨g, cap, cur, rfl, hg, hheap, hn, hm, hsz, ht⟩
  · exact ⟨none, 0, rfl, ⟨hz, by rw [show l.length = 0 by omega]; exact Nat.zero_le _, .inl (List.eq_nil_of_length_eq_zero (by omega))⟩, by omega, Nat.le_refl _⟩
  · refine ⟨_, cap, rfl, ⟨hz, by omega, .inr ⟨g, 0, rfl, fun j hj => ?_⟩⟩, by omega, hn⟩
    rw [Nat.zero_add, cell_of_row w g j cur _ _ hheap]
    have h1 : (cur.toList.take (k * 1))[j]? = (l.map Value.string)[j]? := by rw [ht]
    rw [List.getElem?_take, if_pos (by omega)] at h1
    rw [← Array.getElem?_toList, h1]
    simp [hj]
theorem own_belowS {w w' : World} {base k : Nat} {v : Value} {xs : List Value} (h : w.ownsRow base 9 1 v k xs) (hb : Below w.heap.size w w') : w'.ownsRow base 9 1 v k xs := by
  obtain ⟨h1, h2⟩ := h
  refine ⟨h1, ?_⟩
  rcases h2 with h2 | ⟨g, cap, cur, e, hg, hh, r⟩
  · exact .inl h2
  · have hlt : g < w.heap.size := by
      rcases Nat.lt_or_ge g w.heap.size with hlt | hge
      · exact hlt
      · rw [Array.getElem?_eq_none hge] at hh; cases hh
    exact .inr ⟨g, cap, cur, e, hg, (hb.block g hlt).trans hh, r⟩
end Go.Proofs.Ytaielamimkigmaa
