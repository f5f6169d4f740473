/-
  The law NandIdle, its arguments as the frame hands them: an operation by value opened.
-/
import Derived.Test.YtpckphleikpioaaNandIdleW
import Derived.Test.YtpckphleikpioaaNandSized
namespace Go.Proofs.Ytpckphleikpioaa
open Go.RowKit Crcm Tagm Go.ChangeShapes Go.WideShapes

set_option maxRecDepth 100000 in
theorem op_sized {H : Type} {enc : TypeId × Value → H} {w : World} {held : Bool} {r : Reach} {b0 : Nat} {v : Value} {d : DataW H} {p : List MemPlace}
    (hv : Value.okWide Try.prog w r b0 30 v) (h : DataW.Trod enc Try.prog w 0 (fun _ => true) held 30 v d p) (hw : ∀ n ∈ d.weights Try.prog 30, n ≤ reachBytes) :
    ∃ (y : Oz) (v3 v4 : Value), v = .agg #[.int .i64 y.kind, .int .i64 y.block, .int .i64 y.page, v3, v4] ∧ OzW y ∧ SzO y ∧ BsV w v3 y.b ∧ FsV w v4 y.fl := by
  obtain ⟨cs, rfl, hsz⟩ := okWide_struct Try.underlying30 hv
  obtain ⟨l⟩ := cs
  match l, hsz.trans Try.cellsO5 with
  | [c0, c1, c2, c3, c4], _ =>
    obtain ⟨fuel, hf⟩ := h
    obtain ⟨xs, k, _, hagg, _, hxl, hg⟩ := DataW.trod_struct Try.underlying30 hf
    match xs, hxl with
    | [y0, y1, y2, y3, y4], _ =>
      have h0 := hg 0 _ rfl
      have h1 := hg 1 _ rfl
      have h2 := hg 2 _ rfl
      have h3 := hg 3 _ rfl
      have h4 := hg 4 _ rfl
      obtain ⟨z0, e0, -, q0⟩ := DataW.trod_int Try.underlying3 h0
      obtain ⟨z1, e1, -, q1⟩ := DataW.trod_int Try.underlying3 h1
      obtain ⟨z2, e2, -, q2⟩ := DataW.trod_int Try.underlying3 h2
      have hup : ∀ j t d', [3, 3, 3, 27, 28][j]? = some t → [y0.1, y1.1, y2.1, y3.1, y4.1][j]? = some d' → ∀ n ∈ DataW.weights Try.prog t d', n ≤ reachBytes := fun j t d' hj hd n hn => hw n (by
        rw [show d = _ from congrArg Prod.fst hagg]
        simp only [DataW.weights, Try.underlying30]
        exact DataW.weights_mem_each hj hd n hn)
      obtain ⟨v3, l3, e3, hv3, hz3⟩ := bytes_sized h3 (hup 3 _ _ rfl rfl)
      obtain ⟨v4, l4, e4, hv4, hz4⟩ := faults_sized h4 (hup 4 _ _ rfl rfl)
      clear hup
      simp [Value.cells, Try.cellsI1, Try.cellsB8, Try.cellsFs] at e0 e1 e2 e3 e4
      subst e0 e1 e2 e3 e4
      exact ⟨⟨z0, z1, z2, l3, l4⟩, _, _, rfl, ⟨q0, q1, q2⟩, ⟨hz3, hz4⟩, hv3, hv4⟩

theorem nandIdle_walk (x y z : Int) (a1 : Option Addr) (l1 c1 : Nat) (z1 : List Int) (a2 : Option Addr) (l2 c2 : Nat) (z2 : List Oz) (y3 : Oz) (v3 u3 : Value) (w : World)
    (_ : (Lit.int .i64 x).wf = true) (_ : (Lit.int .i64 y).wf = true) (_ : (Lit.int .i64 z).wf = true) (w1 : Ri w a1 z1) (u1 : z1.length = l1) (w2 : Ro w a2 z2) (u2 : z2.length = l2) (t2 : ∀ y ∈ z2, SzO y) (w3 : OzW y3) (s3 : SzO y3) (b3 : BsV w v3 y3.b) (f3 : FsV w u3 y3.fl) :
    Calls Try.prog 5 #[.agg #[.int .i64 x, .int .i64 y, .int .i64 z], .slice a1 l1 c1, .slice a2 l2 c2, .agg #[.int .i64 y3.kind, .int .i64 y3.block, .int .i64 y3.page, v3, u3]] w fun e w' => e = .returned (.bool true) ∧ Below w.heap.size w w' :=
  nandIdle_core x y z a1 l1 c1 z1 a2 l2 c2 z2 y3 v3 u3 w w1 u1 w2 u2 t2 w3 s3 b3 f3

end Go.Proofs.Ytpckphleikpioaa
