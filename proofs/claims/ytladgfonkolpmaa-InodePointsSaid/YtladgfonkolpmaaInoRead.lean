/-
  The inode of bytes: what the program's Read answers.
-/
import Derived.Test.YtladgfonkolpmaaInoWrite
namespace Go.Proofs.Ytladgfonkolpmaa
open Go.RowKit Crcm Tagm Inom Go.ChangeShapes

/-- the number at a place of bytes -/
def nat_ (l : List Int) (p n : Nat) : Int := nu ((l.drop p).take n)
/-- the inode of bytes -/
def rd (l : List Int) : Ind := ⟨nat_ l 0 1, nat_ l 2 2, nat_ l 4 4, nat_ l 8 2, nat_ l 10 2, nat_ l 12 2, nat_ l 14 2, nat_ l 16 2, nat_ l 18 2, nat_ l 20 2, nat_ l 22 2⟩
theorem rd_wb {i : Ind} (h : IR i) : rd (wb i) = i ∧ nat_ (wb i) 1 1 = 0 := by
  obtain ⟨⟨a0, a1⟩, ⟨b0, b1⟩, ⟨c0, c1⟩, ⟨⟨e0, e1⟩, ⟨f0, f1⟩, ⟨g0, g1⟩, ⟨h0, h1⟩, ⟨j0, j1⟩, ⟨m0, m1⟩⟩, ⟨n0, n1⟩, ⟨o0, o1⟩⟩ := h.bd
  clear h
  obtain ⟨k, l, s, d0, d1, d2, d3, d4, d5, sg, db⟩ := i
  simp only at *
  have e2 : ∀ x : Int, le 2 x = [x % 256, x / 256 % 256] := fun x => rfl
  have e4 : ∀ x : Int, le 4 x = [x % 256, x / 256 % 256, x / 256 / 256 % 256, x / 256 / 256 / 256 % 256] := fun x => rfl
  unfold rd nat_ wb dsl
  simp only [List.flatMap_cons, List.flatMap_nil, e2, e4, List.cons_append, List.nil_append, List.append_nil, List.drop_succ_cons, List.drop_zero, List.take_succ_cons, List.take_zero, nu, Ind.mk.injEq]
  refine ⟨⟨by omega, by omega, by omega, by omega, by omega, by omega, by omega, by omega, by omega, by omega, by omega⟩, by omega⟩

/-- what stands while an inode is read: the answer's block, what is left, the inode so far, the bytes -/
structure Rst (w W : World) (b off : Nat) (l : List Int) (k c : Nat) (cs : Array Value) : Prop where
  r : Blk W w.heap.size 65 #[.int .i64 0, .int .i64 0, .int .i64 0, .int .i64 0, .int .i64 0, .int .i64 0, .int .i64 0, .int .i64 0, .int .i64 0, .int .i64 0, .int .i64 0]
  p : ∃ a, Blk W (w.heap.size + 1) 22 #[.slice a (24 - k) (c - k)] ∧ (k < c → a = some ⟨b, off + k, none⟩)
  i : Blk W (w.heap.size + 2) 65 cs
  s : Rw w (some ⟨b, off, none⟩) l
  b : Below w.heap.size w W
theorem Rst.put {w W : World} {b off : Nat} {l : List Int} {k c : Nat} {cs : Array Value} (h : Rst w W b off l k c cs) (j : Nat) (x : Value) : Rst w (W.setCell ⟨w.heap.size + 2, j, none⟩ x) b off l k c (cs.setIfInBounds j x) := by
  obtain ⟨a, ha, hk⟩ := h.p
  exact ⟨h.r.far (by simp) x, ⟨a, ha.far (by simp) x, hk⟩, h.i.put j x, h.s, h.b.setCell (p := ⟨w.heap.size + 2, j, none⟩) (by simp) _⟩

theorem Rst.next {w W W' : World} {b off : Nat} {l : List Int} {k c : Nat} {cs : Array Value} (h : Rst w W b off l k c cs) (hb : Below W.heap.size W W') : Rst w W' b off l k c cs := by
  obtain ⟨a, ha, hk⟩ := h.p
  exact ⟨h.r.below hb h.r.lt, ⟨a, ha.below hb ha.lt, hk⟩, h.i.below hb h.i.lt, h.s, h.b.trans (hb.mono h.b.size)⟩

/-- a block of eleven numbers, written over -/
def ovI (w : World) (g : Nat) (i : Ind) : World := (((((((((((w.setCell ⟨g, 0, none⟩ (.int .i64 i.k)).setCell ⟨g, 1, none⟩ (.int .i64 i.l)).setCell ⟨g, 2, none⟩ (.int .i64 i.s)).setCell ⟨g, 3, none⟩ (.int .i64 i.d0)).setCell ⟨g, 4, none⟩ (.int .i64 i.d1)).setCell ⟨g, 5, none⟩ (.int .i64 i.d2)).setCell ⟨g, 6, none⟩ (.int .i64 i.d3)).setCell ⟨g, 7, none⟩ (.int .i64 i.d4)).setCell ⟨g, 8, none⟩ (.int .i64 i.d5)).setCell ⟨g, 9, none⟩ (.int .i64 i.sg)).setCell ⟨g, 10, none⟩ (.int .i64 i.db))
theorem ovI_blk {w : World} {g : Nat} {t : TypeId} {a0 a1 a2 a3 a4 a5 a6 a7 a8 a9 a10 : Value} {i : Ind} (h : Blk w g t #[a0, a1, a2, a3, a4, a5, a6, a7, a8, a9, a10]) : Blk (ovI w g i) g t #[.int .i64 i.k, .int .i64 i.l, .int .i64 i.s, .int .i64 i.d0, .int .i64 i.d1, .int .i64 i.d2, .int .i64 i.d3, .int .i64 i.d4, .int .i64 i.d5, .int .i64 i.sg, .int .i64 i.db] := by
  have := (((((((((((h.put 0 (.int .i64 i.k)).put 1 (.int .i64 i.l)).put 2 (.int .i64 i.s)).put 3 (.int .i64 i.d0)).put 4 (.int .i64 i.d1)).put 5 (.int .i64 i.d2)).put 6 (.int .i64 i.d3)).put 7 (.int .i64 i.d4)).put 8 (.int .i64 i.d5)).put 9 (.int .i64 i.sg)).put 10 (.int .i64 i.db))
  simpa [ovI] using this
theorem ovI_below {w0 w : World} {B g : Nat} {i : Ind} (h : Below B w0 w) (hg : B ≤ g) : Below B w0 (ovI w g i) := by
  unfold ovI
  exact (((((((((((h.setCell (p := ⟨g, 0, none⟩) hg _).setCell (p := ⟨g, 1, none⟩) hg _).setCell (p := ⟨g, 2, none⟩) hg _).setCell (p := ⟨g, 3, none⟩) hg _).setCell (p := ⟨g, 4, none⟩) hg _).setCell (p := ⟨g, 5, none⟩) hg _).setCell (p := ⟨g, 6, none⟩) hg _).setCell (p := ⟨g, 7, none⟩) hg _).setCell (p := ⟨g, 8, none⟩) hg _).setCell (p := ⟨g, 9, none⟩) hg _).setCell (p := ⟨g, 10, none⟩) hg _)

end Go.Proofs.Ytladgfonkolpmaa
