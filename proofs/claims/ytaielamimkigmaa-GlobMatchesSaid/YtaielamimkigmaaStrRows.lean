/-
  Rows of texts that came in or were made: what they read as, whether two are alike, whether one begins another. Nothing of one statement alone stands here.
-/
import Derived.Test.YtaielamimkigmaaProg
import Derived.Test.YtaielamimkigmaaLater
import Derived.WalkKit
import Derived.ProofKit
import Derived.OpenShut
import Derived.Below
import Derived.Laws.Rows
import Derived.Lib.Hide
namespace Go.Proofs.Ytaielamimkigmaa
open Go.RowKit Go.ChangeShapes

theorem sbool {a b : Bool} (h : a = b) : Ending.returned (.bool a) = .returned (.bool b) := by rw [h]
theorem sint {a b : Int} (h : a = b) : Ending.returned (.int .i64 a) = .returned (.int .i64 b) := by rw [h]

/-- what is told of a slice of texts that came in -/
def RowS (w : World) (a : Option Addr) (len cap : Nat) (ss : List ByteArray) : Prop :=
  (a = none ∧ len = 0 ∧ cap = 0 ∧ ss = []) ∨
  ∃ x, a = some x ∧ len ≤ cap ∧ cap ≤ maxLen ∧ ss.length = cap ∧ (∀ i, i < ss.length → w.cell? (x.add i) = some (.string (ss.getD i ByteArray.empty))) ∧ ∀ s ∈ ss, s.size ≤ maxLen

/-- a row of texts where a slice says that it is -/
def Rs (w : World) (a : Option Addr) (l : List ByteArray) : Prop :=
  (∀ s ∈ l, s.size ≤ maxLen) ∧ l.length ≤ maxLen ∧ (l = [] ∨ ∃ b off, a = some ⟨b, off, none⟩ ∧ ∀ j (h : j < l.length), w.cell? ⟨b, off + j, none⟩ = some (.string l[j]))

theorem RowS.rs {w : World} {a : Option Addr} {len cap : Nat} {ss : List ByteArray} (h : RowS w a len cap ss) : ∃ l : List ByteArray, l.length = len ∧ len ≤ cap ∧ Rs w a l := by
  rcases h with ⟨rfl, rfl, rfl, rfl⟩ | ⟨x, rfl, hl, hm, hz, hc, hs⟩
  · exact ⟨[], rfl, Nat.le_refl _, ⟨by simp, by simp, .inl rfl⟩⟩
  · refine ⟨ss.take len, by rw [List.length_take]; omega, hl, ⟨fun s h => hs s (List.mem_of_mem_take h), by rw [List.length_take]; omega, ?_⟩⟩
    by_cases h0 : len = 0
    · left; subst h0; rfl
    · right
      obtain ⟨b, off, spot⟩ := x
      have hc0 := hc 0 (by omega)
      have hspot : spot = none := by simpa [Addr.add] using World.cell?_spot hc0
      subst hspot
      refine ⟨b, off, rfl, fun j hj => ?_⟩
      rw [List.length_take] at hj
      have := hc j (by omega)
      rw [Addr.add_lit] at this
      rw [this, List.getElem_take]
      simp [List.getD_eq_getElem?_getD, (by omega : j < ss.length)]

theorem Rs.below {w w' : World} {a : Option Addr} {l : List ByteArray} (h : Rs w a l) (hb : Below w.heap.size w w') : Rs w' a l := by
  obtain ⟨h1, h2, h3⟩ := h
  refine ⟨h1, h2, ?_⟩
  rcases h3 with h3 | ⟨b, off, rfl, h3⟩
  · exact .inl h3
  · exact .inr ⟨b, off, rfl, fun j hj => (hb.cell (p := ⟨b, off + j, none⟩) (block_lt_of_cell (h3 j hj))).trans (h3 j hj)⟩
theorem later_cell {w : World} (m : Later w) {p : Addr} {v : Value} (h : w.cell? p = some v) : m.to.cell? p = some v :=
  (m.bel.cell (block_lt_of_cell h)).trans h
theorem Rs.nil {w : World} {a : Option Addr} : Rs w a [] := ⟨by simp, by simp, .inl rfl⟩
theorem Rs.take {w : World} {a : Option Addr} {l : List ByteArray} (h : Rs w a l) (n : Nat) : Rs w a (l.take n) := by
  obtain ⟨h1, h2, h3⟩ := h
  refine ⟨fun s hs => h1 s (List.mem_of_mem_take hs), by rw [List.length_take]; omega, ?_⟩
  rcases h3 with rfl | ⟨b, off, rfl, h3⟩
  · left; simp
  · refine .inr ⟨b, off, rfl, fun j hj => ?_⟩
    rw [List.length_take] at hj
    rw [List.getElem_take]
    exact h3 j (by omega)

theorem take_step {l m : List ByteArray} {k : Nat} (h1 : k < l.length) (h2 : k < m.length) (e : l.take k = m.take k) (g : l[k] = m[k]) : l.take (k + 1) = m.take (k + 1) := by
  rw [List.take_add_one, List.take_add_one, e, List.getElem?_eq_getElem h1, List.getElem?_eq_getElem h2, g]
theorem take_miss {l m : List ByteArray} {k : Nat} (h1 : k < l.length) (h2 : k < m.length) (g : l[k] ≠ m[k]) (n : Nat) (hn : k < n) : l.take n ≠ m.take n := by
  intro h
  have := congrArg (·[k]?) h
  simp only [List.getElem?_take, if_pos hn, List.getElem?_eq_getElem h1, List.getElem?_eq_getElem h2, Option.some.injEq] at this
  exact g this
end Go.Proofs.Ytaielamimkigmaa
