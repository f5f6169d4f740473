/-
  Blocks of a call's own that are known whole. Nothing of one statement alone stands here.
-/
import Derived.Test.YtnnpdlebgfjihaaProg
import Derived.Laws.Rows
import Derived.Below
import Derived.OpenShut
import Derived.WalkKit
namespace Go.Proofs.Ytnnpdlebgfjihaa
open Go.RowKit Go.ChangeShapes

/-- a block that is known whole -/
def Blk (w : World) (g : Nat) (t : TypeId) (cs : Array Value) : Prop := w.heap[g]? = some (.cells cs t (0, 0))
theorem Blk.cell {w : World} {g : Nat} {t : TypeId} {cs : Array Value} (h : Blk w g t cs) (i : Nat) : w.cell? ⟨g, i, none⟩ = cs[i]? := cell_of_row w g i cs t (0, 0) h
theorem Blk.frozen {w : World} {g : Nat} {t : TypeId} {cs : Array Value} (h : Blk w g t cs) (i : Nat) : w.frozen? ⟨g, i, none⟩ = false := frozen_of_row w g i cs t h
theorem Blk.lt {w : World} {g : Nat} {t : TypeId} {cs : Array Value} (h : Blk w g t cs) : g < w.heap.size := by
  rcases Nat.lt_or_ge g w.heap.size with hlt | hge
  · exact hlt
  · unfold Blk at h; rw [Array.getElem?_eq_none hge] at h; cases h
theorem Blk.below {w w' : World} {B g : Nat} {t : TypeId} {cs : Array Value} (h : Blk w g t cs) (hb : Below B w w') (hg : g < B) : Blk w' g t cs := (hb.block g hg).trans h
theorem Blk.new (w : World) (t : TypeId) (cs : Array Value) : Blk (w.alloc (.cells cs t)) w.heap.size t cs := heap_alloc_new w _
theorem Blk.alloc {w : World} {g : Nat} {t : TypeId} {cs : Array Value} (h : Blk w g t cs) (o : Obj) : Blk (w.alloc o) g t cs := (Below.heap_alloc w o g h.lt).trans h
theorem Blk.put {w : World} {g : Nat} {t : TypeId} {cs : Array Value} (h : Blk w g t cs) (i : Nat) (u : Value) : Blk (w.setCell ⟨g, i, none⟩ u) g t (cs.setIfInBounds i u) := by
  unfold Blk at h ⊢
  simp [World.setCell, Array.getElem?_modify, h]
theorem Blk.far {w : World} {g : Nat} {t : TypeId} {cs : Array Value} (h : Blk w g t cs) {p : Addr} (hp : g ≠ p.block) (u : Value) : Blk (w.setCell p u) g t cs := (Below.heap_setCell w p u g hp).trans h

/-- a block of two numbers, written over -/
def ov2 (w : World) (g : Nat) (a b : Int) : World := (w.setCell ⟨g, 0, none⟩ (.int .i64 a)).setCell ⟨g, 1, none⟩ (.int .i64 b)
theorem ov2_blk {w : World} {g : Nat} {t : TypeId} {x y a b : Int} (h : Blk w g t #[.int .i64 x, .int .i64 y]) : Blk (ov2 w g a b) g t #[.int .i64 a, .int .i64 b] := by
  have := (h.put 0 (.int .i64 a)).put 1 (.int .i64 b)
  simpa [ov2] using this
theorem ov2_below {w0 w : World} {B g : Nat} {a b : Int} (h : Below B w0 w) (hg : B ≤ g) : Below B w0 (ov2 w g a b) := by
  unfold ov2
  exact (h.setCell (p := ⟨g, 0, none⟩) hg _).setCell (p := ⟨g, 1, none⟩) hg _
theorem ov2_far {w : World} {g g' : Nat} {t : TypeId} {cs : Array Value} {a b : Int} (h : Blk w g' t cs) (hg : g' ≠ g) : Blk (ov2 w g a b) g' t cs := by
  unfold ov2
  exact (h.far (p := ⟨g, 0, none⟩) hg _).far (p := ⟨g, 1, none⟩) hg _
end Go.Proofs.Ytnnpdlebgfjihaa
