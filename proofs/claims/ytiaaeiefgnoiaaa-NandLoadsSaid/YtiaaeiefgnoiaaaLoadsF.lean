/-
  The law NandLoads, its arguments as the frame hands them: a row of bools, and an operation by value opened.
-/
import Derived.Test.YtiaaeiefgnoiaaaLdW
import Derived.Test.YtiaaeiefgnoiaaaNandSized
import Derived.Deep.Grids
namespace Go.Proofs.Ytiaaeiefgnoiaaa
open Go.RowKit Crcm Tagm Go.ChangeShapes Go.WideShapes

theorem Try.cellsBoL : Try.prog.cellsOf 4 = 1 := by kernel_rfl
theorem bools_rbo {H : Type} {enc : TypeId × Value → H} {W : World} {held : Bool} {fuel : Nat} {a : Option Addr} {len cap : Nat} {x : DataW H × List MemPlace}
    (h : DataW.trod enc Try.prog W 0 (fun _ => true) held fuel 25 [.slice a len cap] = some x) : ∃ l : List Bool, Rbo W a l ∧ l.length = len ∧ len ≤ maxLen := by
  rcases Go.Deep.open_bools Try.underlying25 Try.underlying4 Try.cellsBoL h with ⟨hcs, _⟩ | ⟨y, l, c, f, hcs, _, hl2, hm2, _, hcell⟩
  · simp at hcs
    obtain ⟨rfl, rfl, rfl⟩ := hcs
    exact ⟨[], .inl rfl, rfl, Nat.zero_le _⟩
  · simp at hcs
    obtain ⟨rfl, rfl, rfl⟩ := hcs
    refine ⟨(List.range len).map f, ?_, by simp, by omega⟩
    by_cases h0 : len = 0
    · subst h0; exact .inl (by simp)
    · right
      obtain ⟨b, off, spot⟩ := y
      have c0 := hcell 0 (by omega)
      have hspot : spot = none := by simpa [Addr.add] using World.cell?_spot c0
      subst hspot
      refine ⟨b, off, rfl, fun j hj => ?_⟩
      have hj2 : j < len := by simpa using hj
      have := hcell j (by omega)
      rw [Addr.add_lit] at this
      rw [this, getElem!_pos ((List.range len).map f) j hj]
      simp

set_option maxRecDepth 100000 in
theorem op_sized {H : Type} {enc : TypeId × Value → H} {w : World} {held : Bool} {r : Reach} {b0 : Nat} {v : Value} {d : DataW H} {p : List MemPlace}
    (hv : Value.okWide Try.prog w r b0 30 v) (h : DataW.Trod enc Try.prog w 0 (fun _ => true) held 30 v d p) (hw : ∀ n ∈ d.weights Try.prog 30, n ≤ reachBytes) :
    ∃ (y : Oz) (v3 v4 : Value), v = .agg #[.int .i64 y.kind, .int .i64 y.block, .int .i64 y.page, v3, v4] ∧ OzW y ∧ SzO y ∧ BsV w v3 y.b ∧ FsV w v4 y.fl := by
  obtain ⟨cs, rfl, hsz⟩ := okWide_struct Try.underlying30 hv
  obtain ⟨l⟩ := cs
  match l, hsz.trans Try.cellsO5 with
  | [c0, c1, c2, c3, c4], _ =>
    obtain ⟨fuel, hf⟩ := h
    obtain ⟨xs, k, _, hagg, _, hxl, hg⟩ := DataW.trod_struct Try.underlying30 hf
    match xs, hxl with
    | [y0, y1, y2, y3, y4], _ =>
      have h0 := hg 0 _ rfl
      have h1 := hg 1 _ rfl
      have h2 := hg 2 _ rfl
      have h3 := hg 3 _ rfl
      have h4 := hg 4 _ rfl
      obtain ⟨z0, e0, -, q0⟩ := DataW.trod_int Try.underlying3 h0
      obtain ⟨z1, e1, -, q1⟩ := DataW.trod_int Try.underlying3 h1
      obtain ⟨z2, e2, -, q2⟩ := DataW.trod_int Try.underlying3 h2
      have hup : ∀ j t d', [3, 3, 3, 27, 28][j]? = some t → [y0.1, y1.1, y2.1, y3.1, y4.1][j]? = some d' → ∀ n ∈ DataW.weights Try.prog t d', n ≤ reachBytes := fun j t d' hj hd n hn => hw n (by
        rw [show d = _ from congrArg Prod.fst hagg]
        simp only [DataW.weights, Try.underlying30]
        exact DataW.weights_mem_each hj hd n hn)
      obtain ⟨v3, l3, e3, hv3, hz3⟩ := bytes_sized h3 (hup 3 _ _ rfl rfl)
      obtain ⟨v4, l4, e4, hv4, hz4⟩ := faults_sized h4 (hup 4 _ _ rfl rfl)
      clear hup
      simp [Value.cells, Try.cellsI1, Try.cellsB8, Try.cellsFs] at e0 e1 e2 e3 e4
      subst e0 e1 e2 e3 e4
      exact ⟨⟨z0, z1, z2, l3, l4⟩, _, _, rfl, ⟨q0, q1, q2⟩, ⟨hz3, hz4⟩, hv3, hv4⟩

theorem nandLoads_walk (x y z : Int) (a1 : Option Addr) (n1 c1 : Nat) (a2 : Option Addr) (n2 c2 : Nat) (z2 : List Bool) (a3 : Option Addr) (n3 c3 : Nat) (z3 : List Int) (y4 : Oz) (v4 u4 : Value) (w : World)
    (_ : (Lit.int .i64 x).wf = true) (_ : (Lit.int .i64 y).wf = true) (_ : (Lit.int .i64 z).wf = true) (w1 : RowLB w a1 n1 c1) (w2 : Rbo w a2 z2) (l2 : z2.length = n2) (m2 : n2 ≤ maxLen) (w3 : Ri w a3 z3) (l3 : z3.length = n3) (w4 : OzW y4) (s4 : SzO y4) (b4 : BsV w v4 y4.b) (f4 : FsV w u4 y4.fl) :
    Calls Try.prog 3 #[.agg #[.int .i64 x, .int .i64 y, .int .i64 z], .slice a1 n1 c1, .slice a2 n2 c2, .slice a3 n3 c3, .agg #[.int .i64 y4.kind, .int .i64 y4.block, .int .i64 y4.page, v4, u4]] w fun e w' => e = .returned (.bool true) ∧ Below w.heap.size w w' := by
  obtain ⟨ls, l1, k1, m1, r1⟩ := w1.rl
  exact nandLoads_core x y z a1 n1 c1 ls a2 n2 c2 z2 a3 n3 c3 z3 y4 v4 u4 w r1 l1 k1 m1 w2 l2 m2 w3 l3 w4 s4 b4 f4

end Go.Proofs.Ytiaaeiefgnoiaaa
