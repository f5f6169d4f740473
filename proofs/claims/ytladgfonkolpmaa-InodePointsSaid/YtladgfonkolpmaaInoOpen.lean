/-
  An inode that came in by value, opened to its eleven numbers.
-/
import Derived.Test.YtladgfonkolpmaaInoEq
import Derived.WideShapes
import Derived.OpenShut
namespace Go.Proofs.Ytladgfonkolpmaa
open Go.RowKit Go.ChangeShapes Go.WideShapes

theorem Try.cellsN : Try.prog.cellsOf 65 = 11 := by kernel_rfl
theorem Try.cellsA : Try.prog.cellsOf 63 = 6 := by kernel_rfl
theorem Try.cells64 : Try.prog.cellsOf 2 = 1 := by kernel_rfl
set_option maxRecDepth 100000 in
theorem open_inode {H : Type} {enc : TypeId × Value → H} {w : World} {base : Nat} {spare : Nat → Bool} {held : Bool} {r : Reach} {b0 : Nat} {v : Value} {d : DataW H} {p : List MemPlace}
    (hv : Value.okWide Try.prog w r b0 65 v) (h : DataW.Trod enc Try.prog w base spare held 65 v d p) :
    ∃ x0 x1 x2 x3 x4 x5 x6 x7 x8 x9 x10 : Int, v = .agg #[.int .i64 x0, .int .i64 x1, .int .i64 x2, .int .i64 x3, .int .i64 x4, .int .i64 x5, .int .i64 x6, .int .i64 x7, .int .i64 x8, .int .i64 x9, .int .i64 x10] ∧
      (Lit.int .i64 x0).wf = true ∧ (Lit.int .i64 x1).wf = true ∧ (Lit.int .i64 x2).wf = true ∧ (Lit.int .i64 x3).wf = true ∧ (Lit.int .i64 x4).wf = true ∧ (Lit.int .i64 x5).wf = true ∧ (Lit.int .i64 x6).wf = true ∧ (Lit.int .i64 x7).wf = true ∧ (Lit.int .i64 x8).wf = true ∧ (Lit.int .i64 x9).wf = true ∧ (Lit.int .i64 x10).wf = true := by
  obtain ⟨cs, rfl, hsz⟩ := okWide_struct Try.underlying65 hv
  obtain ⟨l⟩ := cs
  match l, hsz.trans Try.cellsN with
  | [c0, c1, c2, c3, c4, c5, c6, c7, c8, c9, c10], _ =>
    obtain ⟨fuel, hf⟩ := h
    obtain ⟨xs, n, hn, hx, hl, hlen, hg⟩ := DataW.trod_struct Try.underlying65 hf
    match xs, hlen with
    | [y0, y1, y2, y3, y4, y5], _ =>
      have h0 := hg 0 _ rfl
      have h1 := hg 1 _ rfl
      have h2 := hg 2 _ rfl
      have h3 := hg 3 _ rfl
      have h4 := hg 4 _ rfl
      have h5 := hg 5 _ rfl
      obtain ⟨x0, e0, -, w0⟩ := DataW.trod_int Try.underlying3 h0
      obtain ⟨x1, e1, -, w1⟩ := DataW.trod_int Try.underlying3 h1
      obtain ⟨x2, e2, -, w2⟩ := DataW.trod_int Try.underlying2 h2
      obtain ⟨x9, e9, -, w9⟩ := DataW.trod_int Try.underlying3 h4
      obtain ⟨x10, e10, -, w10⟩ := DataW.trod_int Try.underlying3 h5
      obtain ⟨ys, m, hm, hy, hyl, hyn, ha⟩ := DataW.trod_array Try.underlying63 h3
      match ys, hyn with
      | [z0, z1, z2, z3, z4, z5], _ =>
        have a0 := ha 0 (by omega)
        have a1 := ha 1 (by omega)
        have a2 := ha 2 (by omega)
        have a3 := ha 3 (by omega)
        have a4 := ha 4 (by omega)
        have a5 := ha 5 (by omega)
        obtain ⟨x3, e3, -, w3⟩ := DataW.trod_int Try.underlying3 a0
        obtain ⟨x4, e4, -, w4⟩ := DataW.trod_int Try.underlying3 a1
        obtain ⟨x5, e5, -, w5⟩ := DataW.trod_int Try.underlying3 a2
        obtain ⟨x6, e6, -, w6⟩ := DataW.trod_int Try.underlying3 a3
        obtain ⟨x7, e7, -, w7⟩ := DataW.trod_int Try.underlying3 a4
        obtain ⟨x8, e8, -, w8⟩ := DataW.trod_int Try.underlying3 a5
        simp [Value.cells, Try.cellsI, Try.cellsA, Try.cells64] at e0 e1 e2 e3 e4 e5 e6 e7 e8 e9 e10
        subst e0 e1 e2 e3 e4 e5 e6 e7 e8 e9 e10
        exact ⟨x0, x1, x2, x3, x4, x5, x6, x7, x8, x9, x10, rfl, w0, w1, w2, w3, w4, w5, w6, w7, w8, w9, w10⟩

end Go.Proofs.Ytladgfonkolpmaa
