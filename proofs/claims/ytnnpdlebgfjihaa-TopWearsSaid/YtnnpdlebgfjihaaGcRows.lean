/-
  Slices of blocks that came in or were made: what they read as. Nothing of one statement alone stands here.
-/
import Derived.Test.YtnnpdlebgfjihaaProg
import Derived.Test.YtnnpdlebgfjihaaGcMath
import Derived.WalkKit
import Derived.ProofKit
import Derived.OpenShut
import Derived.Below
import Derived.Deep.Slices
import Derived.Deep.Grids
import Derived.Lib.SmallJoins
import Derived.Lib.Hide
namespace Gcm
open Go
/-- a block as a value -/
def Bk.v (b : Bk) : Value := .agg #[.int .i64 b.st, .int .i64 b.lv, .int .i64 b.wr, .int .i64 b.nx]
/-- a block's cells, from a place on -/
def At (w : World) (b off : Nat) (x : Bk) : Prop :=
  w.cell? ⟨b, off, none⟩ = some (.int .i64 x.st) ∧ w.cell? ⟨b, off + 1, none⟩ = some (.int .i64 x.lv) ∧ w.cell? ⟨b, off + 2, none⟩ = some (.int .i64 x.wr) ∧ w.cell? ⟨b, off + 3, none⟩ = some (.int .i64 x.nx)
def I64 (n : Int) : Prop := -9223372036854775808 ≤ n ∧ n ≤ 9223372036854775807
def Bw (b : Bk) : Prop := I64 b.st ∧ I64 b.lv ∧ I64 b.wr ∧ I64 b.nx
end Gcm
namespace Go.Proofs.Ytnnpdlebgfjihaa
open Go.RowKit Gcm Go.ChangeShapes Go.Joins

theorem i64_wf {n : Int} (h : (Lit.int .i64 n).wf = true) : I64 n := by have := bounds_i64 h; unfold I64; omega

def Ad (w : World) (ad : Addr) (i : Nat) (y : Bk) : Prop :=
  Bw y ∧ w.cell? (ad.add (i * 4 + 0)) = some (.int .i64 y.st) ∧ w.cell? (ad.add (i * 4 + 1)) = some (.int .i64 y.lv) ∧ w.cell? (ad.add (i * 4 + 2)) = some (.int .i64 y.wr) ∧ w.cell? (ad.add (i * 4 + 3)) = some (.int .i64 y.nx)
/-- what is told of a slice of blocks that came in -/
def RowG (w : World) (a : Option Addr) (len cap : Nat) (l : List Bk) : Prop :=
  (a = none ∧ len = 0 ∧ cap = 0 ∧ l = []) ∨ ∃ ad, a = some ad ∧ len ≤ cap ∧ cap ≤ maxLen ∧ l.length = cap ∧ ∀ j, j < cap → Ad w ad j l[j]!

/-- a row of blocks where a slice says that it is -/
def Rg (w : World) (a : Option Addr) (l : List Bk) : Prop :=
  (∀ x ∈ l, Bw x) ∧ l.length ≤ maxLen ∧ (l = [] ∨ ∃ b off, a = some ⟨b, off, none⟩ ∧ ∀ j, j < l.length → At w b (off + j * 4) l[j]!)

theorem choose_list {α : Type} [Inhabited α] (m : Nat) (p : Nat → α → Prop) (h : ∀ i, i < m → ∃ x, p i x) : ∃ l : List α, l.length = m ∧ ∀ i, i < m → p i l[i]! := by
  obtain ⟨f, hf⟩ := Go.Deep.choose_lt h
  refine ⟨(List.range m).map f, by simp, fun i hi => ?_⟩
  rw [getElem!_pos _ _ (by simpa using hi)]
  simpa using hf i hi

theorem Try.cellsG : Try.prog.cellsOf 66 = 4 := by kernel_rfl
theorem Try.cellsI : Try.prog.cellsOf 3 = 1 := by kernel_rfl

set_option maxRecDepth 100000 in
theorem rowG_open {H : Type} {enc : TypeId × Value → H} {W : World} {held : Bool} {fuel : Nat} {a : Option Addr} {len cap : Nat} {x : DataW H × List MemPlace}
    (h : DataW.trod enc Try.prog W 0 (fun _ => true) held fuel 57 [.slice a len cap] = some x) : ∃ l, RowG W a len cap l := by
  rcases Go.Deep.open_slice Try.underlying57 h with ⟨hcs, _⟩ | ⟨ad, ln, cp, m, n, D, Pl, hcs, _, hl, hm, hmm, _, hi⟩
  · simp at hcs
    obtain ⟨rfl, rfl, rfl⟩ := hcs
    exact ⟨[], .inl ⟨rfl, rfl, rfl, rfl⟩⟩
  · simp at hcs
    obtain ⟨rfl, rfl, rfl⟩ := hcs
    simp at hmm
    subst hmm
    have each : ∀ i, i < m → ∃ y : Bk, Ad W ad i y := by
      intro i him
      obtain ⟨cs', hc, ht⟩ := hi i him
      rw [Try.cellsG] at hc
      obtain ⟨_, hcl, hat⟩ := World.cells?_some hc
      obtain ⟨y0, y1, y2, y3, k, _, _, h0, h1, h2, h3⟩ := trod_struct4 Try.underlying66 ht
      match cs', hcl with
      | [c0, c1, c2, c3], _ =>
        simp only [Try.cellsI] at h0 h1 h2 h3
        simp at h0 h1 h2 h3
        obtain ⟨z0, e0, -, q0⟩ := DataW.trod_int Try.underlying3 h0
        obtain ⟨z1, e1, -, q1⟩ := DataW.trod_int Try.underlying3 h1
        obtain ⟨z2, e2, -, q2⟩ := DataW.trod_int Try.underlying3 h2
        obtain ⟨z3, e3, -, q3⟩ := DataW.trod_int Try.underlying3 h3
        simp at e0 e1 e2 e3
        subst e0 e1 e2 e3
        have g0 := hat 0 (by omega)
        have g1 := hat 1 (by omega)
        have g2 := hat 2 (by omega)
        have g3 := hat 3 (by omega)
        rw [Go.Deep.add_add] at g0 g1 g2 g3
        exact ⟨⟨z0, z1, z2, z3⟩, ⟨i64_wf q0, i64_wf q1, i64_wf q2, i64_wf q3⟩, by simpa using g0, by simpa using g1, by simpa using g2, by simpa using g3⟩
    obtain ⟨l, hll, hlf⟩ := choose_list m _ each
    exact ⟨l, .inr ⟨ad, rfl, hl, hm, hll, hlf⟩⟩

theorem take_getB (l : List Bk) (n j : Nat) (h : j < n) (h2 : n ≤ l.length) : (l.take n)[j]! = l[j]! := by
  rw [getElem!_pos _ _ (by rw [List.length_take]; omega), getElem!_pos _ _ (by omega), List.getElem_take]

theorem RowG.rg {w : World} {a : Option Addr} {len cap : Nat} {l : List Bk} (h : RowG w a len cap l) : ∃ m : List Bk, m.length = len ∧ len ≤ cap ∧ Rg w a m := by
  rcases h with ⟨rfl, rfl, rfl, rfl⟩ | ⟨ad, rfl, hl, hm, hz, hc⟩
  · exact ⟨[], rfl, Nat.le_refl _, ⟨by simp, by simp, .inl rfl⟩⟩
  · refine ⟨l.take len, by rw [List.length_take]; omega, hl, ⟨fun y hy => ?_, by rw [List.length_take]; omega, ?_⟩⟩
    · obtain ⟨j, hj, rfl⟩ := mem_getB _ y hy
      rw [List.length_take] at hj
      rw [take_getB l len j (by omega) (by omega)]
      exact (hc j (by omega)).1
    by_cases h0 : len = 0
    · left; subst h0; rfl
    · right
      obtain ⟨b, off, spot⟩ := ad
      have hc0 := (hc 0 (by omega)).2.1
      have hspot : spot = none := by simpa [Addr.add] using World.cell?_spot hc0
      subst hspot
      refine ⟨b, off, rfl, fun j hj => ?_⟩
      rw [List.length_take] at hj
      rw [take_getB l len j (by omega) (by omega)]
      have := (hc j (by omega)).2
      rw [Addr.add_lit, Addr.add_lit, Addr.add_lit, Addr.add_lit] at this
      exact this

theorem at_below {w w' : World} {b off : Nat} {x : Bk} (h : At w b off x) (hb : Below w.heap.size w w') : At w' b off x := by
  obtain ⟨h0, h1, h2, h3⟩ := h
  have hlt := block_lt_of_cell h0
  exact ⟨(hb.cell (p := ⟨b, off, none⟩) hlt).trans h0, (hb.cell (p := ⟨b, off + 1, none⟩) hlt).trans h1, (hb.cell (p := ⟨b, off + 2, none⟩) hlt).trans h2, (hb.cell (p := ⟨b, off + 3, none⟩) hlt).trans h3⟩
theorem Rg.below {w w' : World} {a : Option Addr} {l : List Bk} (h : Rg w a l) (hb : Below w.heap.size w w') : Rg w' a l := by
  obtain ⟨h1, h2, h3⟩ := h
  refine ⟨h1, h2, ?_⟩
  rcases h3 with h3 | ⟨b, off, rfl, h3⟩
  · exact .inl h3
  · exact .inr ⟨b, off, rfl, fun j hj => at_below (h3 j hj) hb⟩
theorem Rg.nil {w : World} {a : Option Addr} : Rg w a [] := ⟨by simp, by simp, .inl rfl⟩
end Go.Proofs.Ytnnpdlebgfjihaa
