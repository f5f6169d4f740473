/-
  Rows of blocks of a call's own: copied, and one block written over. Nothing of one statement alone stands here.
-/
import Derived.Test.YtnnpdlebgfjihaaGcNum
import Derived.Test.YtnnpdlebgfjihaaGcRows
import Derived.Test.YtnnpdlebgfjihaaBlk
import Derived.Laws.AppendOwnNone
namespace Gcm
open Go
/-- blocks as cells, one behind the other -/
def flat : List Bk → List Value
  | [] => []
  | b :: r => .int .i64 b.st :: .int .i64 b.lv :: .int .i64 b.wr :: .int .i64 b.nx :: flat r
theorem flat_length (l : List Bk) : (flat l).length = l.length * 4 := by
  induction l with
  | nil => rfl
  | cons b r ih => simp [flat, ih]; omega
theorem flat_one (l : List Bk) : ∀ u ∈ flat l, u.oneCell' = true := by
  induction l with
  | nil => intro u h; cases h
  | cons b r ih =>
    intro u h
    simp only [flat, List.mem_cons] at h
    rcases h with rfl | rfl | rfl | rfl | h
    · rfl
    · rfl
    · rfl
    · rfl
    · exact ih u h
theorem flat_at (l : List Bk) (q : Nat) (h : q < l.length) : (flat l)[q * 4]? = some (.int .i64 l[q]!.st) ∧ (flat l)[q * 4 + 1]? = some (.int .i64 l[q]!.lv) ∧ (flat l)[q * 4 + 2]? = some (.int .i64 l[q]!.wr) ∧ (flat l)[q * 4 + 3]? = some (.int .i64 l[q]!.nx) := by
  induction l generalizing q with
  | nil => simp at h
  | cons b r ih =>
    cases q with
    | zero => exact ⟨rfl, rfl, rfl, rfl⟩
    | succ q =>
      have := ih q (by simpa using h)
      rw [show (q + 1) * 4 = q * 4 + 1 + 1 + 1 + 1 by omega]
      exact this
theorem flat_cells (w : World) (b : Nat) (l : List Bk) (off : Nat) (h : ∀ j, j < l.length → At w b (off + j * 4) l[j]!) (j : Nat) (u : Value) (hu : (flat l)[j]? = some u) : w.cell? ⟨b, off + j, none⟩ = some u := by
  induction l generalizing off j with
  | nil => simp [flat] at hu
  | cons x r ih =>
    have h0 := h 0 (by simp)
    obtain ⟨c0, c1, c2, c3⟩ := h0
    have hr : ∀ j, j < r.length → At w b (off + 4 + j * 4) r[j]! := fun j hj => by
      have := h (j + 1) (by simp; omega)
      rw [show off + (j + 1) * 4 = off + 4 + j * 4 by omega] at this
      exact this
    match j, hu with
    | 0, hu => simp only [flat, List.getElem?_cons_zero, Option.some.injEq] at hu; rw [← hu]; exact c0
    | 1, hu => simp only [flat, List.getElem?_cons_succ, List.getElem?_cons_zero, Option.some.injEq] at hu; rw [← hu]; exact c1
    | 2, hu => simp only [flat, List.getElem?_cons_succ, List.getElem?_cons_zero, Option.some.injEq] at hu; rw [← hu]; exact c2
    | 3, hu => simp only [flat, List.getElem?_cons_succ, List.getElem?_cons_zero, Option.some.injEq] at hu; rw [← hu]; exact c3
    | j + 4, hu =>
      simp only [flat, List.getElem?_cons_succ] at hu
      have := ih (off + 4) hr j hu
      rw [show off + (j + 4) = off + 4 + j by omega]
      exact this
theorem set_getB (l : List Bk) (k j : Nat) (b : Bk) (hj : j < l.length) : (l.set k b)[j]! = if k = j then b else l[j]! := by
  rw [getElem!_pos (l.set k b) j (by simpa using hj), getElem!_pos l j hj, List.getElem_set]
end Gcm
namespace Go.Proofs.Ytnnpdlebgfjihaa
open Go.RowKit Gcm Go.ChangeShapes

/-- a row of blocks in a block of memory that is the call's own -/
def OwnB (w : World) (g : Nat) (l : List Bk) : Prop :=
  ∃ cur : Array Value, Blk w g 66 cur ∧ ∀ j, j < l.length → cur[j * 4]? = some (.int .i64 l[j]!.st) ∧ cur[j * 4 + 1]? = some (.int .i64 l[j]!.lv) ∧ cur[j * 4 + 2]? = some (.int .i64 l[j]!.wr) ∧ cur[j * 4 + 3]? = some (.int .i64 l[j]!.nx)
theorem OwnB.at {w : World} {g : Nat} {l : List Bk} (h : OwnB w g l) (j : Nat) (hj : j < l.length) : At w g (j * 4) l[j]! := by
  obtain ⟨cur, hb, hc⟩ := h
  obtain ⟨c0, c1, c2, c3⟩ := hc j hj
  exact ⟨(hb.cell _).trans c0, (hb.cell _).trans c1, (hb.cell _).trans c2, (hb.cell _).trans c3⟩
theorem OwnB.frozen {w : World} {g : Nat} {l : List Bk} (h : OwnB w g l) (i : Nat) : w.frozen? ⟨g, i, none⟩ = false := by
  obtain ⟨cur, hb, _⟩ := h
  exact hb.frozen i
theorem OwnB.below {w w' : World} {B g : Nat} {l : List Bk} (h : OwnB w g l) (hb : Below B w w') (hg : g < B) : OwnB w' g l := by
  obtain ⟨cur, h1, h2⟩ := h
  exact ⟨cur, h1.below hb hg, h2⟩
theorem OwnB.lt {w : World} {g : Nat} {l : List Bk} (h : OwnB w g l) : g < w.heap.size := by
  obtain ⟨cur, h1, _⟩ := h
  exact h1.lt
theorem OwnB.rg {w : World} {g : Nat} {l : List Bk} (h : OwnB w g l) (hz : ∀ x ∈ l, Bw x) (hm : l.length ≤ maxLen) : Rg w (some ⟨g, 0, none⟩) l :=
  ⟨hz, hm, .inr ⟨g, 0, rfl, fun j hj => by rw [Nat.zero_add]; exact h.at j hj⟩⟩
/-- a block of a row, written over -/
def ov4 (w : World) (g o : Nat) (b : Bk) : World := (((w.setCell ⟨g, o, none⟩ (.int .i64 b.st)).setCell ⟨g, o + 1, none⟩ (.int .i64 b.lv)).setCell ⟨g, o + 2, none⟩ (.int .i64 b.wr)).setCell ⟨g, o + 3, none⟩ (.int .i64 b.nx)
theorem ov4_below {w0 w : World} {B g o : Nat} {b : Bk} (h : Below B w0 w) (hg : B ≤ g) : Below B w0 (ov4 w g o b) := by
  unfold ov4
  exact (((h.setCell (p := ⟨g, o, none⟩) hg _).setCell (p := ⟨g, o + 1, none⟩) hg _).setCell (p := ⟨g, o + 2, none⟩) hg _).setCell (p := ⟨g, o + 3, none⟩) hg _
theorem OwnB.put {w : World} {g : Nat} {l : List Bk} (h : OwnB w g l) (k : Nat) (hk : k < l.length) (b : Bk) : OwnB (ov4 w g (k * 4) b) g (l.set k b) := by
  obtain ⟨cur, h1, h2⟩ := h
  refine ⟨_, (((h1.put (k * 4) (.int .i64 b.st)).put (k * 4 + 1) (.int .i64 b.lv)).put (k * 4 + 2) (.int .i64 b.wr)).put (k * 4 + 3) (.int .i64 b.nx), fun j hj => ?_⟩
  rw [List.length_set] at hj
  rw [set_getB l k j b hj]
  obtain ⟨d0, d1, d2, d3⟩ := h2 k hk
  have s0 := (Array.getElem?_eq_some_iff.1 d0).1
  have s1 := (Array.getElem?_eq_some_iff.1 d1).1
  have s2 := (Array.getElem?_eq_some_iff.1 d2).1
  have s3 := (Array.getElem?_eq_some_iff.1 d3).1
  obtain ⟨c0, c1, c2, c3⟩ := h2 j hj
  simp only [Array.getElem?_setIfInBounds, Array.size_setIfInBounds]
  by_cases e : k = j
  · subst e
    have e1 : (if k = k then b else l[k]!) = b := if_pos rfl
    rw [e1]
    refine ⟨?_, ?_, ?_, ?_⟩
    · rw [if_neg (by omega), if_neg (by omega), if_neg (by omega), if_pos rfl, if_pos s0]
    · rw [if_neg (by omega), if_neg (by omega), if_pos rfl, if_pos s1]
    · rw [if_neg (by omega), if_pos rfl, if_pos s2]
    · rw [if_pos rfl, if_pos s3]
  · rw [if_neg e]
    refine ⟨?_, ?_, ?_, ?_⟩
    · rw [if_neg (by omega), if_neg (by omega), if_neg (by omega), if_neg (by omega)]; exact c0
    · rw [if_neg (by omega), if_neg (by omega), if_neg (by omega), if_neg (by omega)]; exact c1
    · rw [if_neg (by omega), if_neg (by omega), if_neg (by omega), if_neg (by omega)]; exact c2
    · rw [if_neg (by omega), if_neg (by omega), if_neg (by omega), if_neg (by omega)]; exact c3

theorem Try.infoG : (Try.prog.info? 66).map (fun i => (i.zero, i.size, i.bytes)) = some (some (.agg #[.int .i64 0, .int .i64 0, .int .i64 0, .int .i64 0]), 4, 32) := by kernel_rfl
theorem infoG_parts : ∃ i, Try.prog.info? 66 = some i ∧ i.zero = some (.agg #[.int .i64 0, .int .i64 0, .int .i64 0, .int .i64 0]) ∧ i.size = 4 ∧ i.bytes = 32 := by
  have h := Try.infoG
  cases hi : Try.prog.info? 66 with
  | none => rw [hi] at h; cases h
  | some i =>
    rw [hi] at h
    simp only [Option.map_some, Option.some.injEq, Prod.mk.injEq] at h
    exact ⟨i, rfl, h.1, h.2.1, h.2.2⟩

/-- append of a row of blocks onto none -/
theorem append_blocks {w : World} {ops : Array Oper} {rest : List Oper} {o : Oper} {a : Act} {Q : Exit → Act → World → Prop} (hgd : o.guard = none) (s x : Operand)
    (ho : o.op = .call { callee := .builtin .append, args := #[s, x], argTypes := #[57, 57] })
    (base : Nat) (v : Value) (hs : a.eval s = v) (hown : w.ownsRow base 66 4 v 0 [])
    (b off m c : Nat) (l : List Bk) (hx : a.eval x = .slice (some ⟨b, off, none⟩) m c) (hl : l.length = m) (hm0 : 0 < m) (hm : m ≤ 1000000) (hc : ∀ j, j < l.length → At w b (off + j * 4) l[j]!) (hbase : base ≤ w.heap.size)
    (h : ∀ g c' w', OwnB w' g l → base ≤ g → m ≤ c' → Below base w w' → wpList Try.prog ops Q rest (a.put o.dst (.slice (some ⟨g, 0, none⟩) m c')) w') : wpList Try.prog ops Q (o :: rest) a w := by
  obtain ⟨i0, hi, hz0, hz1, hz2⟩ := infoG_parts
  refine wpList_append_own w hgd s x 57 ho base 66 i0 _ 4 32 Try.underlying57 hi hz0 hz1 hz2 rfl (by decide) v 0 [] hs hown ⟨b, off, none⟩ m c (flat l) hx (by rw [flat_length, hl]) ?_ (flat_one l) (by unfold maxLen; omega) (by omega) hbase ?_
  · intro j u hu
    rw [Addr.add_lit]
    exact flat_cells w b l off hc j u hu
  · intro v' w' h1 h2 _
    rw [Nat.zero_add, List.nil_append] at h1
    obtain ⟨hlen, h1⟩ := h1
    rcases h1 with ⟨rfl, h0⟩ | ⟨g, cap, cur, rfl, hg, hheap, hn, _, hsz, ht⟩
    · omega
    · refine h g cap w' ⟨cur, hheap, fun j hj => ?_⟩ hg hn ((Below.refl _ w).grown h2 hbase (fun g hg => (hown.lt g hg).1))
      obtain ⟨f0, f1, f2, f3⟩ := flat_at l j hj
      have e : ∀ i, i < m * 4 → cur[i]? = (flat l)[i]? := fun i hi => by rw [← ht, List.getElem?_take, if_pos hi, Array.getElem?_toList]
      exact ⟨(e _ (by omega)).trans f0, (e _ (by omega)).trans f1, (e _ (by omega)).trans f2, (e _ (by omega)).trans f3⟩
end Go.Proofs.Ytnnpdlebgfjihaa
