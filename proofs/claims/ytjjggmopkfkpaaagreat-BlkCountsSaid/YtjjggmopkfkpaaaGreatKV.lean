/-
  The document's chip in memory: its rows made, in whatever order (made by gen_blank.py).
-/
import Derived.Test.YtjjggmopkfkpaaaGreatKT
import Derived.Test.YtjjggmopkfkpaaaGreatKC
import Derived.Deep.RegionHeld3
namespace Go.Proofs.YtjjggmopkfkpaaaGreat
open Go.RowKit Crcm Go.ChangeShapes

/-- the operations of the literal -/
def bops : Array Oper := #[{ dst := some 3, op := Op.load 23 (Operand.tmp 1), type := 23, pos := "ref.go:27", after := #[], guard := none }, { dst := some 4, op := Op.fieldAddr 23 (Operand.tmp 1) 0, type := 0, pos := "ref.go:27", after := #[], guard := none }, { dst := some 5, op := Op.load 3 (Operand.tmp 4), type := 3, pos := "ref.go:27", after := #[{ on := 1, ground := Ground.data }], guard := none }, { dst := some 6, op := Op.fieldAddr 23 (Operand.tmp 1) 1, type := 0, pos := "ref.go:27", after := #[], guard := none }, { dst := some 7, op := Op.load 3 (Operand.tmp 6), type := 3, pos := "ref.go:27", after := #[{ on := 3, ground := Ground.data }], guard := none }, { dst := some 8, op := Op.binOp BinOp.mul 3 (Operand.tmp 5) (Operand.tmp 7) 3, type := 3, pos := "ref.go:27", after := #[{ on := 2, ground := Ground.data }, { on := 4, ground := Ground.data }], guard := none }, { dst := some 9, op := Op.makeSlice 78 (Operand.tmp 8) (Operand.tmp 8), type := 78, pos := "ref.go:27", after := #[{ on := 5, ground := Ground.data }, { on := 5, ground := Ground.data }], guard := none }, { dst := some 10, op := Op.fieldAddr 23 (Operand.tmp 1) 0, type := 0, pos := "ref.go:27", after := #[], guard := none }, { dst := some 11, op := Op.load 3 (Operand.tmp 10), type := 3, pos := "ref.go:27", after := #[{ on := 7, ground := Ground.data }], guard := none }, { dst := some 12, op := Op.makeSlice 24 (Operand.tmp 11) (Operand.tmp 11), type := 24, pos := "ref.go:27", after := #[{ on := 8, ground := Ground.data }, { on := 8, ground := Ground.data }], guard := none }, { dst := some 13, op := Op.fieldAddr 23 (Operand.tmp 1) 0, type := 0, pos := "ref.go:27", after := #[], guard := none }, { dst := some 14, op := Op.load 3 (Operand.tmp 13), type := 3, pos := "ref.go:27", after := #[{ on := 10, ground := Ground.data }], guard := none }, { dst := some 15, op := Op.makeSlice 26 (Operand.tmp 14) (Operand.tmp 14), type := 26, pos := "ref.go:27", after := #[{ on := 11, ground := Ground.data }, { on := 11, ground := Ground.data }], guard := none }, { dst := some 16, op := Op.fieldAddr 23 (Operand.tmp 1) 0, type := 0, pos := "ref.go:27", after := #[], guard := none }, { dst := some 17, op := Op.load 3 (Operand.tmp 16), type := 3, pos := "ref.go:27", after := #[{ on := 13, ground := Ground.data }], guard := none }, { dst := some 18, op := Op.makeSlice 26 (Operand.tmp 17) (Operand.tmp 17), type := 26, pos := "ref.go:27", after := #[{ on := 14, ground := Ground.data }, { on := 14, ground := Ground.data }], guard := none }, { dst := some 19, op := Op.fieldAddr 23 (Operand.tmp 1) 0, type := 0, pos := "ref.go:27", after := #[], guard := none }, { dst := some 20, op := Op.load 3 (Operand.tmp 19), type := 3, pos := "ref.go:27", after := #[{ on := 16, ground := Ground.data }], guard := none }, { dst := some 21, op := Op.makeSlice 24 (Operand.tmp 20) (Operand.tmp 20), type := 24, pos := "ref.go:27", after := #[{ on := 17, ground := Ground.data }, { on := 17, ground := Ground.data }], guard := none }, { dst := some 22, op := Op.build 80 #[(0, Operand.tmp 3), (1, Operand.tmp 9), (2, Operand.tmp 12), (3, Operand.tmp 15), (4, Operand.tmp 18), (5, Operand.tmp 21)], type := 80, pos := "ref.go:27", after := #[{ on := 0, ground := Ground.data }, { on := 6, ground := Ground.data }, { on := 9, ground := Ground.data }, { on := 12, ground := Ground.data }, { on := 15, ground := Ground.data }, { on := 18, ground := Ground.data }], guard := none }, { dst := some 23, op := Op.box 80 (Operand.tmp 22), type := 61, pos := "ref.go:27", after := #[{ on := 19, ground := Ground.data }], guard := none }, { dst := some 2, op := Op.assign (Operand.tmp 23), type := 61, pos := "ref.go:27", after := #[{ on := 20, ground := Ground.data }, { on := 0, ground := Ground.phase }, { on := 1, ground := Ground.phase }, { on := 2, ground := Ground.phase }, { on := 3, ground := Ground.phase }, { on := 4, ground := Ground.phase }, { on := 5, ground := Ground.phase }, { on := 6, ground := Ground.phase }, { on := 7, ground := Ground.phase }, { on := 8, ground := Ground.phase }, { on := 9, ground := Ground.phase }, { on := 10, ground := Ground.phase }, { on := 11, ground := Ground.phase }, { on := 12, ground := Ground.phase }, { on := 13, ground := Ground.phase }, { on := 14, ground := Ground.phase }, { on := 15, ground := Ground.phase }, { on := 16, ground := Ground.phase }, { on := 17, ground := Ground.phase }, { on := 18, ground := Ground.phase }, { on := 19, ground := Ground.phase }, { on := 20, ground := Ground.phase }], guard := none }]
/-- what the loads read -/
def GS (g0 nb np sz : Nat) (w : World) : Prop := w.cell? ⟨g0, 0, none⟩ = some (.int .i64 nb) ∧ w.cell? ⟨g0, 1, none⟩ = some (.int .i64 np) ∧ w.cell? ⟨g0, 2, none⟩ = some (.int .i64 sz)
theorem GS.alloc {g0 nb np sz : Nat} {w : World} (h : GS g0 nb np sz w) (o : Obj) : GS g0 nb np sz (w.alloc o) := ⟨cell_alloc h.1 o, cell_alloc h.2.1 o, cell_alloc h.2.2 o⟩
theorem GS.lt {g0 nb np sz : Nat} {w : World} (h : GS g0 nb np sz w) : g0 < w.heap.size := block_lt_of_cell h.1

section
variable {w : World} {g0 nb np sz N : Nat} {csP csI csB : Array Value} {Q : Exit → Act → World → Prop}
  (hmI : ∀ W, Sem.run Tryz.prog (Instr.makeSlice 24 (.int .i64 nb) (.int .i64 nb)) W = Result.ok (.slice (some ⟨W.heap.size, 0, none⟩) nb nb) (W.alloc (.cells csI 3)))
  (hmB : ∀ W, Sem.run Tryz.prog (Instr.makeSlice 26 (.int .i64 nb) (.int .i64 nb)) W = Result.ok (.slice (some ⟨W.heap.size, 0, none⟩) nb nb) (W.alloc (.cells csB 4)))
  (hmP : ∀ W, Sem.run Tryz.prog (Instr.makeSlice 78 (.int .i64 N) (.int .i64 N)) W = Result.ok (.slice (some ⟨W.heap.size, 0, none⟩) N N) (W.alloc (.cells csP 40)))
  (hQ : ∀ (W : World) (x0 x1 x2 x3 x4 x5 : Nat), Below w.heap.size w W → Blk W x0 40 csP → Blk W x1 3 csI → Blk W x2 4 csB → Blk W x3 4 csB → Blk W x4 3 csI → Blk W x5 80 #[.int .i64 nb, .int .i64 np, .int .i64 sz, .slice (some ⟨x0, 0, none⟩) N N, .slice (some ⟨x1, 0, none⟩) nb nb, .slice (some ⟨x2, 0, none⟩) nb nb, .slice (some ⟨x3, 0, none⟩) nb nb, .slice (some ⟨x4, 0, none⟩) nb nb, .slice none 0 0, .int .i64 0, .bool false, .int .i64 0, .int .i64 0] →
    g0 < x0 → g0 < x1 → g0 < x2 → g0 < x3 → g0 < x4 → x0 ≠ x1 → x0 ≠ x2 → x0 ≠ x3 → x0 ≠ x4 → x1 ≠ x2 → x1 ≠ x3 → x1 ≠ x4 → x2 ≠ x3 → x2 ≠ x4 → x3 ≠ x4 → x0 < x5 → x1 < x5 → x2 < x5 → x3 < x5 → x4 < x5 →
    Q .normal ⟨#[.agg #[.int .i64 nb, .int .i64 np, .int .i64 sz], .pointer (some ⟨g0, 0, none⟩), .pointer (some ⟨x5, 0, none⟩), .agg #[.int .i64 nb, .int .i64 np, .int .i64 sz], .pointer (some ⟨g0, 0, none⟩), .int .i64 nb, .pointer (some ⟨g0, 1, none⟩), .int .i64 np, .int .i64 N, .slice (some ⟨x0, 0, none⟩) N N, .pointer (some ⟨g0, 0, none⟩), .int .i64 nb, .slice (some ⟨x1, 0, none⟩) nb nb, .pointer (some ⟨g0, 0, none⟩), .int .i64 nb, .slice (some ⟨x2, 0, none⟩) nb nb, .pointer (some ⟨g0, 0, none⟩), .int .i64 nb, .slice (some ⟨x3, 0, none⟩) nb nb, .pointer (some ⟨g0, 0, none⟩), .int .i64 nb, .slice (some ⟨x4, 0, none⟩) nb nb, .agg #[.int .i64 nb, .int .i64 np, .int .i64 sz, .slice (some ⟨x0, 0, none⟩) N N, .slice (some ⟨x1, 0, none⟩) nb nb, .slice (some ⟨x2, 0, none⟩) nb nb, .slice (some ⟨x3, 0, none⟩) nb nb, .slice (some ⟨x4, 0, none⟩) nb nb, .slice none 0 0, .int .i64 0, .bool false, .int .i64 0, .int .i64 0], .pointer (some ⟨x5, 0, none⟩)], []⟩ W)
  (hN : ∀ c (a : Act) v w, Q (.panic c) (a.put (some 22) v) w → Q (.panic c) a w)
include hmI hmB hmP hQ hN

omit hmI hmB hmP in
set_option maxRecDepth 100000 in
set_option maxHeartbeats 1000000 in
theorem bl11111 (W : World) (hS : GS g0 nb np sz W) (hb : Below w.heap.size w W) (x0 : Nat) (h0 : Blk W x0 40 csP) (l0 : g0 < x0) (x1 : Nat) (h1 : Blk W x1 3 csI) (l1 : g0 < x1) (x2 : Nat) (h2 : Blk W x2 4 csB) (l2 : g0 < x2) (x3 : Nat) (h3 : Blk W x3 4 csB) (l3 : g0 < x3) (x4 : Nat) (h4 : Blk W x4 3 csI) (l4 : g0 < x4) (n01 : x0 ≠ x1) (n02 : x0 ≠ x2) (n03 : x0 ≠ x3) (n04 : x0 ≠ x4) (n12 : x1 ≠ x2) (n13 : x1 ≠ x3) (n14 : x1 ≠ x4) (n23 : x2 ≠ x3) (n24 : x2 ≠ x4) (n34 : x3 ≠ x4) :
    wpAnyH Tryz.prog .any bops Q (GS g0 nb np sz) 3 #[true, true, true, true, true, true, true, true, true, true, true, true, true, true, true, true, true, true, true, false, false, false] ⟨#[.agg #[.int .i64 nb, .int .i64 np, .int .i64 sz], .pointer (some ⟨g0, 0, none⟩), .pointer none, .agg #[.int .i64 nb, .int .i64 np, .int .i64 sz], .pointer (some ⟨g0, 0, none⟩), .int .i64 nb, .pointer (some ⟨g0, 1, none⟩), .int .i64 np, .int .i64 N, .slice (some ⟨x0, 0, none⟩) N N, .pointer (some ⟨g0, 0, none⟩), .int .i64 nb, .slice (some ⟨x1, 0, none⟩) nb nb, .pointer (some ⟨g0, 0, none⟩), .int .i64 nb, .slice (some ⟨x2, 0, none⟩) nb nb, .pointer (some ⟨g0, 0, none⟩), .int .i64 nb, .slice (some ⟨x3, 0, none⟩) nb nb, .pointer (some ⟨g0, 0, none⟩), .int .i64 nb, .slice (some ⟨x4, 0, none⟩) nb nb, undef, undef], []⟩ W := by
  unfold bops
  refine wpAnyH_take (i := 19) (v := .agg #[.int .i64 nb, .int .i64 np, .int .i64 sz, .slice (some ⟨x0, 0, none⟩) N N, .slice (some ⟨x1, 0, none⟩) nb nb, .slice (some ⟨x2, 0, none⟩) nb nb, .slice (some ⟨x3, 0, none⟩) nb nb, .slice (some ⟨x4, 0, none⟩) nb nb, .slice none 0 0, .int .i64 0, .bool false, .int .i64 0, .int .i64 0]) rfl (by kernel_rfl) (by kernel_rfl) (by kernel_rfl) (fun c a w h => hN c a _ w h) (Or.inl ⟨by kernel_rfl, ?_⟩) hS ?_
  · intro w' hSw
    go_simp
  try simp only [List.setIfInBounds_toArray, List.set]
  refine wpAnyH_ready (rs := [20]) (by kernel_rfl) (by simp) ?_
  refine AllReadyH.cons rfl (fun K hK => ?_) AllReadyH.nil
  go_simp
  refine hK.out _ _ (hS.alloc _) (fun _ => ?_)
  try simp only [List.setIfInBounds_toArray, List.set]
  refine wpAnyH_ready (rs := [21]) (by kernel_rfl) (by simp) ?_
  refine AllReadyH.cons rfl (fun K hK => ?_) AllReadyH.nil
  go_simp
  refine hK.out _ _ (hS.alloc _) (fun _ => ?_)
  try simp only [List.setIfInBounds_toArray, List.set]
  refine wpAnyH_done (by kernel_rfl) ?_ _
  exact hQ _ x0 x1 x2 x3 x4 W.heap.size (hb.alloc hb.size _) (h0.alloc _) (h1.alloc _) (h2.alloc _) (h3.alloc _) (h4.alloc _) (Blk.new W _ _) l0 l1 l2 l3 l4 n01 n02 n03 n04 n12 n13 n14 n23 n24 n34 h0.lt h1.lt h2.lt h3.lt h4.lt

omit hmB hmP in
set_option maxRecDepth 100000 in
set_option maxHeartbeats 1000000 in
theorem bl11110 (W : World) (hS : GS g0 nb np sz W) (hb : Below w.heap.size w W) (x0 : Nat) (h0 : Blk W x0 40 csP) (l0 : g0 < x0) (x1 : Nat) (h1 : Blk W x1 3 csI) (l1 : g0 < x1) (x2 : Nat) (h2 : Blk W x2 4 csB) (l2 : g0 < x2) (x3 : Nat) (h3 : Blk W x3 4 csB) (l3 : g0 < x3) (n01 : x0 ≠ x1) (n02 : x0 ≠ x2) (n03 : x0 ≠ x3) (n12 : x1 ≠ x2) (n13 : x1 ≠ x3) (n23 : x2 ≠ x3) :
    wpAnyH Tryz.prog .any bops Q (GS g0 nb np sz) 4 #[true, true, true, true, true, true, true, true, true, true, true, true, true, true, true, true, true, true, false, false, false, false] ⟨#[.agg #[.int .i64 nb, .int .i64 np, .int .i64 sz], .pointer (some ⟨g0, 0, none⟩), .pointer none, .agg #[.int .i64 nb, .int .i64 np, .int .i64 sz], .pointer (some ⟨g0, 0, none⟩), .int .i64 nb, .pointer (some ⟨g0, 1, none⟩), .int .i64 np, .int .i64 N, .slice (some ⟨x0, 0, none⟩) N N, .pointer (some ⟨g0, 0, none⟩), .int .i64 nb, .slice (some ⟨x1, 0, none⟩) nb nb, .pointer (some ⟨g0, 0, none⟩), .int .i64 nb, .slice (some ⟨x2, 0, none⟩) nb nb, .pointer (some ⟨g0, 0, none⟩), .int .i64 nb, .slice (some ⟨x3, 0, none⟩) nb nb, .pointer (some ⟨g0, 0, none⟩), .int .i64 nb, undef, undef, undef], []⟩ W := by
  unfold bops
  refine wpAnyH_ready (rs := [18]) (by kernel_rfl) (by simp) ?_
  refine AllReadyH.cons rfl (fun K hK => ?_) AllReadyH.nil
  · go_simp
    refine hK.out _ _ (hS.alloc _) (fun _ => ?_)
    try simp only [List.setIfInBounds_toArray, List.set]
    exact bl11111  hQ hN (W.alloc (.cells csI 3)) (hS.alloc _) (hb.alloc hb.size _) x0 (h0.alloc _) l0 x1 (h1.alloc _) l1 x2 (h2.alloc _) l2 x3 (h3.alloc _) l3 W.heap.size (Blk.new W _ _) hS.lt n01 n02 n03 (Nat.ne_of_lt h0.lt) n12 n13 (Nat.ne_of_lt h1.lt) n23 (Nat.ne_of_lt h2.lt) (Nat.ne_of_lt h3.lt)

omit hmI hmP in
set_option maxRecDepth 100000 in
set_option maxHeartbeats 1000000 in
theorem bl11101 (W : World) (hS : GS g0 nb np sz W) (hb : Below w.heap.size w W) (x0 : Nat) (h0 : Blk W x0 40 csP) (l0 : g0 < x0) (x1 : Nat) (h1 : Blk W x1 3 csI) (l1 : g0 < x1) (x2 : Nat) (h2 : Blk W x2 4 csB) (l2 : g0 < x2) (x4 : Nat) (h4 : Blk W x4 3 csI) (l4 : g0 < x4) (n01 : x0 ≠ x1) (n02 : x0 ≠ x2) (n04 : x0 ≠ x4) (n12 : x1 ≠ x2) (n14 : x1 ≠ x4) (n24 : x2 ≠ x4) :
    wpAnyH Tryz.prog .any bops Q (GS g0 nb np sz) 4 #[true, true, true, true, true, true, true, true, true, true, true, true, true, true, true, false, true, true, true, false, false, false] ⟨#[.agg #[.int .i64 nb, .int .i64 np, .int .i64 sz], .pointer (some ⟨g0, 0, none⟩), .pointer none, .agg #[.int .i64 nb, .int .i64 np, .int .i64 sz], .pointer (some ⟨g0, 0, none⟩), .int .i64 nb, .pointer (some ⟨g0, 1, none⟩), .int .i64 np, .int .i64 N, .slice (some ⟨x0, 0, none⟩) N N, .pointer (some ⟨g0, 0, none⟩), .int .i64 nb, .slice (some ⟨x1, 0, none⟩) nb nb, .pointer (some ⟨g0, 0, none⟩), .int .i64 nb, .slice (some ⟨x2, 0, none⟩) nb nb, .pointer (some ⟨g0, 0, none⟩), .int .i64 nb, undef, .pointer (some ⟨g0, 0, none⟩), .int .i64 nb, .slice (some ⟨x4, 0, none⟩) nb nb, undef, undef], []⟩ W := by
  unfold bops
  refine wpAnyH_ready (rs := [15]) (by kernel_rfl) (by simp) ?_
  refine AllReadyH.cons rfl (fun K hK => ?_) AllReadyH.nil
  · go_simp
    refine hK.out _ _ (hS.alloc _) (fun _ => ?_)
    try simp only [List.setIfInBounds_toArray, List.set]
    exact bl11111  hQ hN (W.alloc (.cells csB 4)) (hS.alloc _) (hb.alloc hb.size _) x0 (h0.alloc _) l0 x1 (h1.alloc _) l1 x2 (h2.alloc _) l2 W.heap.size (Blk.new W _ _) hS.lt x4 (h4.alloc _) l4 n01 n02 (Nat.ne_of_lt h0.lt) n04 n12 (Nat.ne_of_lt h1.lt) n14 (Nat.ne_of_lt h2.lt) n24 (Nat.ne_of_gt h4.lt)

omit hmI hmP in
set_option maxRecDepth 100000 in
set_option maxHeartbeats 1000000 in
theorem bl11011 (W : World) (hS : GS g0 nb np sz W) (hb : Below w.heap.size w W) (x0 : Nat) (h0 : Blk W x0 40 csP) (l0 : g0 < x0) (x1 : Nat) (h1 : Blk W x1 3 csI) (l1 : g0 < x1) (x3 : Nat) (h3 : Blk W x3 4 csB) (l3 : g0 < x3) (x4 : Nat) (h4 : Blk W x4 3 csI) (l4 : g0 < x4) (n01 : x0 ≠ x1) (n03 : x0 ≠ x3) (n04 : x0 ≠ x4) (n13 : x1 ≠ x3) (n14 : x1 ≠ x4) (n34 : x3 ≠ x4) :
    wpAnyH Tryz.prog .any bops Q (GS g0 nb np sz) 4 #[true, true, true, true, true, true, true, true, true, true, true, true, false, true, true, true, true, true, true, false, false, false] ⟨#[.agg #[.int .i64 nb, .int .i64 np, .int .i64 sz], .pointer (some ⟨g0, 0, none⟩), .pointer none, .agg #[.int .i64 nb, .int .i64 np, .int .i64 sz], .pointer (some ⟨g0, 0, none⟩), .int .i64 nb, .pointer (some ⟨g0, 1, none⟩), .int .i64 np, .int .i64 N, .slice (some ⟨x0, 0, none⟩) N N, .pointer (some ⟨g0, 0, none⟩), .int .i64 nb, .slice (some ⟨x1, 0, none⟩) nb nb, .pointer (some ⟨g0, 0, none⟩), .int .i64 nb, undef, .pointer (some ⟨g0, 0, none⟩), .int .i64 nb, .slice (some ⟨x3, 0, none⟩) nb nb, .pointer (some ⟨g0, 0, none⟩), .int .i64 nb, .slice (some ⟨x4, 0, none⟩) nb nb, undef, undef], []⟩ W := by
  unfold bops
  refine wpAnyH_ready (rs := [12]) (by kernel_rfl) (by simp) ?_
  refine AllReadyH.cons rfl (fun K hK => ?_) AllReadyH.nil
  · go_simp
    refine hK.out _ _ (hS.alloc _) (fun _ => ?_)
    try simp only [List.setIfInBounds_toArray, List.set]
    exact bl11111  hQ hN (W.alloc (.cells csB 4)) (hS.alloc _) (hb.alloc hb.size _) x0 (h0.alloc _) l0 x1 (h1.alloc _) l1 W.heap.size (Blk.new W _ _) hS.lt x3 (h3.alloc _) l3 x4 (h4.alloc _) l4 n01 (Nat.ne_of_lt h0.lt) n03 n04 (Nat.ne_of_lt h1.lt) n13 n14 (Nat.ne_of_gt h3.lt) (Nat.ne_of_gt h4.lt) n34

omit hmB hmP in
set_option maxRecDepth 100000 in
set_option maxHeartbeats 1000000 in
theorem bl10111 (W : World) (hS : GS g0 nb np sz W) (hb : Below w.heap.size w W) (x0 : Nat) (h0 : Blk W x0 40 csP) (l0 : g0 < x0) (x2 : Nat) (h2 : Blk W x2 4 csB) (l2 : g0 < x2) (x3 : Nat) (h3 : Blk W x3 4 csB) (l3 : g0 < x3) (x4 : Nat) (h4 : Blk W x4 3 csI) (l4 : g0 < x4) (n02 : x0 ≠ x2) (n03 : x0 ≠ x3) (n04 : x0 ≠ x4) (n23 : x2 ≠ x3) (n24 : x2 ≠ x4) (n34 : x3 ≠ x4) :
    wpAnyH Tryz.prog .any bops Q (GS g0 nb np sz) 4 #[true, true, true, true, true, true, true, true, true, false, true, true, true, true, true, true, true, true, true, false, false, false] ⟨#[.agg #[.int .i64 nb, .int .i64 np, .int .i64 sz], .pointer (some ⟨g0, 0, none⟩), .pointer none, .agg #[.int .i64 nb, .int .i64 np, .int .i64 sz], .pointer (some ⟨g0, 0, none⟩), .int .i64 nb, .pointer (some ⟨g0, 1, none⟩), .int .i64 np, .int .i64 N, .slice (some ⟨x0, 0, none⟩) N N, .pointer (some ⟨g0, 0, none⟩), .int .i64 nb, undef, .pointer (some ⟨g0, 0, none⟩), .int .i64 nb, .slice (some ⟨x2, 0, none⟩) nb nb, .pointer (some ⟨g0, 0, none⟩), .int .i64 nb, .slice (some ⟨x3, 0, none⟩) nb nb, .pointer (some ⟨g0, 0, none⟩), .int .i64 nb, .slice (some ⟨x4, 0, none⟩) nb nb, undef, undef], []⟩ W := by
  unfold bops
  refine wpAnyH_ready (rs := [9]) (by kernel_rfl) (by simp) ?_
  refine AllReadyH.cons rfl (fun K hK => ?_) AllReadyH.nil
  · go_simp
    refine hK.out _ _ (hS.alloc _) (fun _ => ?_)
    try simp only [List.setIfInBounds_toArray, List.set]
    exact bl11111  hQ hN (W.alloc (.cells csI 3)) (hS.alloc _) (hb.alloc hb.size _) x0 (h0.alloc _) l0 W.heap.size (Blk.new W _ _) hS.lt x2 (h2.alloc _) l2 x3 (h3.alloc _) l3 x4 (h4.alloc _) l4 (Nat.ne_of_lt h0.lt) n02 n03 n04 (Nat.ne_of_gt h2.lt) (Nat.ne_of_gt h3.lt) (Nat.ne_of_gt h4.lt) n23 n24 n34

omit hmI hmB in
set_option maxRecDepth 100000 in
set_option maxHeartbeats 1000000 in
theorem bl01111 (W : World) (hS : GS g0 nb np sz W) (hb : Below w.heap.size w W) (x1 : Nat) (h1 : Blk W x1 3 csI) (l1 : g0 < x1) (x2 : Nat) (h2 : Blk W x2 4 csB) (l2 : g0 < x2) (x3 : Nat) (h3 : Blk W x3 4 csB) (l3 : g0 < x3) (x4 : Nat) (h4 : Blk W x4 3 csI) (l4 : g0 < x4) (n12 : x1 ≠ x2) (n13 : x1 ≠ x3) (n14 : x1 ≠ x4) (n23 : x2 ≠ x3) (n24 : x2 ≠ x4) (n34 : x3 ≠ x4) :
    wpAnyH Tryz.prog .any bops Q (GS g0 nb np sz) 4 #[true, true, true, true, true, true, false, true, true, true, true, true, true, true, true, true, true, true, true, false, false, false] ⟨#[.agg #[.int .i64 nb, .int .i64 np, .int .i64 sz], .pointer (some ⟨g0, 0, none⟩), .pointer none, .agg #[.int .i64 nb, .int .i64 np, .int .i64 sz], .pointer (some ⟨g0, 0, none⟩), .int .i64 nb, .pointer (some ⟨g0, 1, none⟩), .int .i64 np, .int .i64 N, undef, .pointer (some ⟨g0, 0, none⟩), .int .i64 nb, .slice (some ⟨x1, 0, none⟩) nb nb, .pointer (some ⟨g0, 0, none⟩), .int .i64 nb, .slice (some ⟨x2, 0, none⟩) nb nb, .pointer (some ⟨g0, 0, none⟩), .int .i64 nb, .slice (some ⟨x3, 0, none⟩) nb nb, .pointer (some ⟨g0, 0, none⟩), .int .i64 nb, .slice (some ⟨x4, 0, none⟩) nb nb, undef, undef], []⟩ W := by
  unfold bops
  refine wpAnyH_ready (rs := [6]) (by kernel_rfl) (by simp) ?_
  refine AllReadyH.cons rfl (fun K hK => ?_) AllReadyH.nil
  · go_simp
    refine hK.out _ _ (hS.alloc _) (fun _ => ?_)
    try simp only [List.setIfInBounds_toArray, List.set]
    exact bl11111  hQ hN (W.alloc (.cells csP 40)) (hS.alloc _) (hb.alloc hb.size _) W.heap.size (Blk.new W _ _) hS.lt x1 (h1.alloc _) l1 x2 (h2.alloc _) l2 x3 (h3.alloc _) l3 x4 (h4.alloc _) l4 (Nat.ne_of_gt h1.lt) (Nat.ne_of_gt h2.lt) (Nat.ne_of_gt h3.lt) (Nat.ne_of_gt h4.lt) n12 n13 n14 n23 n24 n34

omit hmP in
set_option maxRecDepth 100000 in
set_option maxHeartbeats 1000000 in
theorem bl11100 (W : World) (hS : GS g0 nb np sz W) (hb : Below w.heap.size w W) (x0 : Nat) (h0 : Blk W x0 40 csP) (l0 : g0 < x0) (x1 : Nat) (h1 : Blk W x1 3 csI) (l1 : g0 < x1) (x2 : Nat) (h2 : Blk W x2 4 csB) (l2 : g0 < x2) (n01 : x0 ≠ x1) (n02 : x0 ≠ x2) (n12 : x1 ≠ x2) :
    wpAnyH Tryz.prog .any bops Q (GS g0 nb np sz) 5 #[true, true, true, true, true, true, true, true, true, true, true, true, true, true, true, false, true, true, false, false, false, false] ⟨#[.agg #[.int .i64 nb, .int .i64 np, .int .i64 sz], .pointer (some ⟨g0, 0, none⟩), .pointer none, .agg #[.int .i64 nb, .int .i64 np, .int .i64 sz], .pointer (some ⟨g0, 0, none⟩), .int .i64 nb, .pointer (some ⟨g0, 1, none⟩), .int .i64 np, .int .i64 N, .slice (some ⟨x0, 0, none⟩) N N, .pointer (some ⟨g0, 0, none⟩), .int .i64 nb, .slice (some ⟨x1, 0, none⟩) nb nb, .pointer (some ⟨g0, 0, none⟩), .int .i64 nb, .slice (some ⟨x2, 0, none⟩) nb nb, .pointer (some ⟨g0, 0, none⟩), .int .i64 nb, undef, .pointer (some ⟨g0, 0, none⟩), .int .i64 nb, undef, undef, undef], []⟩ W := by
  unfold bops
  refine wpAnyH_ready (rs := [15, 18]) (by kernel_rfl) (by simp) ?_
  refine AllReadyH.cons rfl (fun K hK => ?_) (AllReadyH.cons rfl (fun K hK => ?_) AllReadyH.nil)
  · go_simp
    refine hK.out _ _ (hS.alloc _) (fun _ => ?_)
    try simp only [List.setIfInBounds_toArray, List.set]
    exact bl11110 hmI hQ hN (W.alloc (.cells csB 4)) (hS.alloc _) (hb.alloc hb.size _) x0 (h0.alloc _) l0 x1 (h1.alloc _) l1 x2 (h2.alloc _) l2 W.heap.size (Blk.new W _ _) hS.lt n01 n02 (Nat.ne_of_lt h0.lt) n12 (Nat.ne_of_lt h1.lt) (Nat.ne_of_lt h2.lt)
  · go_simp
    refine hK.out _ _ (hS.alloc _) (fun _ => ?_)
    try simp only [List.setIfInBounds_toArray, List.set]
    exact bl11101 hmB hQ hN (W.alloc (.cells csI 3)) (hS.alloc _) (hb.alloc hb.size _) x0 (h0.alloc _) l0 x1 (h1.alloc _) l1 x2 (h2.alloc _) l2 W.heap.size (Blk.new W _ _) hS.lt n01 n02 (Nat.ne_of_lt h0.lt) n12 (Nat.ne_of_lt h1.lt) (Nat.ne_of_lt h2.lt)

omit hmP in
set_option maxRecDepth 100000 in
set_option maxHeartbeats 1000000 in
theorem bl11010 (W : World) (hS : GS g0 nb np sz W) (hb : Below w.heap.size w W) (x0 : Nat) (h0 : Blk W x0 40 csP) (l0 : g0 < x0) (x1 : Nat) (h1 : Blk W x1 3 csI) (l1 : g0 < x1) (x3 : Nat) (h3 : Blk W x3 4 csB) (l3 : g0 < x3) (n01 : x0 ≠ x1) (n03 : x0 ≠ x3) (n13 : x1 ≠ x3) :
    wpAnyH Tryz.prog .any bops Q (GS g0 nb np sz) 5 #[true, true, true, true, true, true, true, true, true, true, true, true, false, true, true, true, true, true, false, false, false, false] ⟨#[.agg #[.int .i64 nb, .int .i64 np, .int .i64 sz], .pointer (some ⟨g0, 0, none⟩), .pointer none, .agg #[.int .i64 nb, .int .i64 np, .int .i64 sz], .pointer (some ⟨g0, 0, none⟩), .int .i64 nb, .pointer (some ⟨g0, 1, none⟩), .int .i64 np, .int .i64 N, .slice (some ⟨x0, 0, none⟩) N N, .pointer (some ⟨g0, 0, none⟩), .int .i64 nb, .slice (some ⟨x1, 0, none⟩) nb nb, .pointer (some ⟨g0, 0, none⟩), .int .i64 nb, undef, .pointer (some ⟨g0, 0, none⟩), .int .i64 nb, .slice (some ⟨x3, 0, none⟩) nb nb, .pointer (some ⟨g0, 0, none⟩), .int .i64 nb, undef, undef, undef], []⟩ W := by
  unfold bops
  refine wpAnyH_ready (rs := [12, 18]) (by kernel_rfl) (by simp) ?_
  refine AllReadyH.cons rfl (fun K hK => ?_) (AllReadyH.cons rfl (fun K hK => ?_) AllReadyH.nil)
  · go_simp
    refine hK.out _ _ (hS.alloc _) (fun _ => ?_)
    try simp only [List.setIfInBounds_toArray, List.set]
    exact bl11110 hmI hQ hN (W.alloc (.cells csB 4)) (hS.alloc _) (hb.alloc hb.size _) x0 (h0.alloc _) l0 x1 (h1.alloc _) l1 W.heap.size (Blk.new W _ _) hS.lt x3 (h3.alloc _) l3 n01 (Nat.ne_of_lt h0.lt) n03 (Nat.ne_of_lt h1.lt) n13 (Nat.ne_of_gt h3.lt)
  · go_simp
    refine hK.out _ _ (hS.alloc _) (fun _ => ?_)
    try simp only [List.setIfInBounds_toArray, List.set]
    exact bl11011 hmB hQ hN (W.alloc (.cells csI 3)) (hS.alloc _) (hb.alloc hb.size _) x0 (h0.alloc _) l0 x1 (h1.alloc _) l1 x3 (h3.alloc _) l3 W.heap.size (Blk.new W _ _) hS.lt n01 n03 (Nat.ne_of_lt h0.lt) n13 (Nat.ne_of_lt h1.lt) (Nat.ne_of_lt h3.lt)

omit hmI hmP in
set_option maxRecDepth 100000 in
set_option maxHeartbeats 1000000 in
theorem bl11001 (W : World) (hS : GS g0 nb np sz W) (hb : Below w.heap.size w W) (x0 : Nat) (h0 : Blk W x0 40 csP) (l0 : g0 < x0) (x1 : Nat) (h1 : Blk W x1 3 csI) (l1 : g0 < x1) (x4 : Nat) (h4 : Blk W x4 3 csI) (l4 : g0 < x4) (n01 : x0 ≠ x1) (n04 : x0 ≠ x4) (n14 : x1 ≠ x4) :
    wpAnyH Tryz.prog .any bops Q (GS g0 nb np sz) 5 #[true, true, true, true, true, true, true, true, true, true, true, true, false, true, true, false, true, true, true, false, false, false] ⟨#[.agg #[.int .i64 nb, .int .i64 np, .int .i64 sz], .pointer (some ⟨g0, 0, none⟩), .pointer none, .agg #[.int .i64 nb, .int .i64 np, .int .i64 sz], .pointer (some ⟨g0, 0, none⟩), .int .i64 nb, .pointer (some ⟨g0, 1, none⟩), .int .i64 np, .int .i64 N, .slice (some ⟨x0, 0, none⟩) N N, .pointer (some ⟨g0, 0, none⟩), .int .i64 nb, .slice (some ⟨x1, 0, none⟩) nb nb, .pointer (some ⟨g0, 0, none⟩), .int .i64 nb, undef, .pointer (some ⟨g0, 0, none⟩), .int .i64 nb, undef, .pointer (some ⟨g0, 0, none⟩), .int .i64 nb, .slice (some ⟨x4, 0, none⟩) nb nb, undef, undef], []⟩ W := by
  unfold bops
  refine wpAnyH_ready (rs := [12, 15]) (by kernel_rfl) (by simp) ?_
  refine AllReadyH.cons rfl (fun K hK => ?_) (AllReadyH.cons rfl (fun K hK => ?_) AllReadyH.nil)
  · go_simp
    refine hK.out _ _ (hS.alloc _) (fun _ => ?_)
    try simp only [List.setIfInBounds_toArray, List.set]
    exact bl11101 hmB hQ hN (W.alloc (.cells csB 4)) (hS.alloc _) (hb.alloc hb.size _) x0 (h0.alloc _) l0 x1 (h1.alloc _) l1 W.heap.size (Blk.new W _ _) hS.lt x4 (h4.alloc _) l4 n01 (Nat.ne_of_lt h0.lt) n04 (Nat.ne_of_lt h1.lt) n14 (Nat.ne_of_gt h4.lt)
  · go_simp
    refine hK.out _ _ (hS.alloc _) (fun _ => ?_)
    try simp only [List.setIfInBounds_toArray, List.set]
    exact bl11011 hmB hQ hN (W.alloc (.cells csB 4)) (hS.alloc _) (hb.alloc hb.size _) x0 (h0.alloc _) l0 x1 (h1.alloc _) l1 W.heap.size (Blk.new W _ _) hS.lt x4 (h4.alloc _) l4 n01 (Nat.ne_of_lt h0.lt) n04 (Nat.ne_of_lt h1.lt) n14 (Nat.ne_of_gt h4.lt)

omit hmB hmP in
set_option maxRecDepth 100000 in
set_option maxHeartbeats 1000000 in
theorem bl10110 (W : World) (hS : GS g0 nb np sz W) (hb : Below w.heap.size w W) (x0 : Nat) (h0 : Blk W x0 40 csP) (l0 : g0 < x0) (x2 : Nat) (h2 : Blk W x2 4 csB) (l2 : g0 < x2) (x3 : Nat) (h3 : Blk W x3 4 csB) (l3 : g0 < x3) (n02 : x0 ≠ x2) (n03 : x0 ≠ x3) (n23 : x2 ≠ x3) :
    wpAnyH Tryz.prog .any bops Q (GS g0 nb np sz) 5 #[true, true, true, true, true, true, true, true, true, false, true, true, true, true, true, true, true, true, false, false, false, false] ⟨#[.agg #[.int .i64 nb, .int .i64 np, .int .i64 sz], .pointer (some ⟨g0, 0, none⟩), .pointer none, .agg #[.int .i64 nb, .int .i64 np, .int .i64 sz], .pointer (some ⟨g0, 0, none⟩), .int .i64 nb, .pointer (some ⟨g0, 1, none⟩), .int .i64 np, .int .i64 N, .slice (some ⟨x0, 0, none⟩) N N, .pointer (some ⟨g0, 0, none⟩), .int .i64 nb, undef, .pointer (some ⟨g0, 0, none⟩), .int .i64 nb, .slice (some ⟨x2, 0, none⟩) nb nb, .pointer (some ⟨g0, 0, none⟩), .int .i64 nb, .slice (some ⟨x3, 0, none⟩) nb nb, .pointer (some ⟨g0, 0, none⟩), .int .i64 nb, undef, undef, undef], []⟩ W := by
  unfold bops
  refine wpAnyH_ready (rs := [9, 18]) (by kernel_rfl) (by simp) ?_
  refine AllReadyH.cons rfl (fun K hK => ?_) (AllReadyH.cons rfl (fun K hK => ?_) AllReadyH.nil)
  · go_simp
    refine hK.out _ _ (hS.alloc _) (fun _ => ?_)
    try simp only [List.setIfInBounds_toArray, List.set]
    exact bl11110 hmI hQ hN (W.alloc (.cells csI 3)) (hS.alloc _) (hb.alloc hb.size _) x0 (h0.alloc _) l0 W.heap.size (Blk.new W _ _) hS.lt x2 (h2.alloc _) l2 x3 (h3.alloc _) l3 (Nat.ne_of_lt h0.lt) n02 n03 (Nat.ne_of_gt h2.lt) (Nat.ne_of_gt h3.lt) n23
  · go_simp
    refine hK.out _ _ (hS.alloc _) (fun _ => ?_)
    try simp only [List.setIfInBounds_toArray, List.set]
    exact bl10111 hmI hQ hN (W.alloc (.cells csI 3)) (hS.alloc _) (hb.alloc hb.size _) x0 (h0.alloc _) l0 x2 (h2.alloc _) l2 x3 (h3.alloc _) l3 W.heap.size (Blk.new W _ _) hS.lt n02 n03 (Nat.ne_of_lt h0.lt) n23 (Nat.ne_of_lt h2.lt) (Nat.ne_of_lt h3.lt)

omit hmP in
set_option maxRecDepth 100000 in
set_option maxHeartbeats 1000000 in
theorem bl10101 (W : World) (hS : GS g0 nb np sz W) (hb : Below w.heap.size w W) (x0 : Nat) (h0 : Blk W x0 40 csP) (l0 : g0 < x0) (x2 : Nat) (h2 : Blk W x2 4 csB) (l2 : g0 < x2) (x4 : Nat) (h4 : Blk W x4 3 csI) (l4 : g0 < x4) (n02 : x0 ≠ x2) (n04 : x0 ≠ x4) (n24 : x2 ≠ x4) :
    wpAnyH Tryz.prog .any bops Q (GS g0 nb np sz) 5 #[true, true, true, true, true, true, true, true, true, false, true, true, true, true, true, false, true, true, true, false, false, false] ⟨#[.agg #[.int .i64 nb, .int .i64 np, .int .i64 sz], .pointer (some ⟨g0, 0, none⟩), .pointer none, .agg #[.int .i64 nb, .int .i64 np, .int .i64 sz], .pointer (some ⟨g0, 0, none⟩), .int .i64 nb, .pointer (some ⟨g0, 1, none⟩), .int .i64 np, .int .i64 N, .slice (some ⟨x0, 0, none⟩) N N, .pointer (some ⟨g0, 0, none⟩), .int .i64 nb, undef, .pointer (some ⟨g0, 0, none⟩), .int .i64 nb, .slice (some ⟨x2, 0, none⟩) nb nb, .pointer (some ⟨g0, 0, none⟩), .int .i64 nb, undef, .pointer (some ⟨g0, 0, none⟩), .int .i64 nb, .slice (some ⟨x4, 0, none⟩) nb nb, undef, undef], []⟩ W := by
  unfold bops
  refine wpAnyH_ready (rs := [9, 15]) (by kernel_rfl) (by simp) ?_
  refine AllReadyH.cons rfl (fun K hK => ?_) (AllReadyH.cons rfl (fun K hK => ?_) AllReadyH.nil)
  · go_simp
    refine hK.out _ _ (hS.alloc _) (fun _ => ?_)
    try simp only [List.setIfInBounds_toArray, List.set]
    exact bl11101 hmB hQ hN (W.alloc (.cells csI 3)) (hS.alloc _) (hb.alloc hb.size _) x0 (h0.alloc _) l0 W.heap.size (Blk.new W _ _) hS.lt x2 (h2.alloc _) l2 x4 (h4.alloc _) l4 (Nat.ne_of_lt h0.lt) n02 n04 (Nat.ne_of_gt h2.lt) (Nat.ne_of_gt h4.lt) n24
  · go_simp
    refine hK.out _ _ (hS.alloc _) (fun _ => ?_)
    try simp only [List.setIfInBounds_toArray, List.set]
    exact bl10111 hmI hQ hN (W.alloc (.cells csB 4)) (hS.alloc _) (hb.alloc hb.size _) x0 (h0.alloc _) l0 x2 (h2.alloc _) l2 W.heap.size (Blk.new W _ _) hS.lt x4 (h4.alloc _) l4 n02 (Nat.ne_of_lt h0.lt) n04 (Nat.ne_of_lt h2.lt) n24 (Nat.ne_of_gt h4.lt)

omit hmP in
set_option maxRecDepth 100000 in
set_option maxHeartbeats 1000000 in
theorem bl10011 (W : World) (hS : GS g0 nb np sz W) (hb : Below w.heap.size w W) (x0 : Nat) (h0 : Blk W x0 40 csP) (l0 : g0 < x0) (x3 : Nat) (h3 : Blk W x3 4 csB) (l3 : g0 < x3) (x4 : Nat) (h4 : Blk W x4 3 csI) (l4 : g0 < x4) (n03 : x0 ≠ x3) (n04 : x0 ≠ x4) (n34 : x3 ≠ x4) :
    wpAnyH Tryz.prog .any bops Q (GS g0 nb np sz) 5 #[true, true, true, true, true, true, true, true, true, false, true, true, false, true, true, true, true, true, true, false, false, false] ⟨#[.agg #[.int .i64 nb, .int .i64 np, .int .i64 sz], .pointer (some ⟨g0, 0, none⟩), .pointer none, .agg #[.int .i64 nb, .int .i64 np, .int .i64 sz], .pointer (some ⟨g0, 0, none⟩), .int .i64 nb, .pointer (some ⟨g0, 1, none⟩), .int .i64 np, .int .i64 N, .slice (some ⟨x0, 0, none⟩) N N, .pointer (some ⟨g0, 0, none⟩), .int .i64 nb, undef, .pointer (some ⟨g0, 0, none⟩), .int .i64 nb, undef, .pointer (some ⟨g0, 0, none⟩), .int .i64 nb, .slice (some ⟨x3, 0, none⟩) nb nb, .pointer (some ⟨g0, 0, none⟩), .int .i64 nb, .slice (some ⟨x4, 0, none⟩) nb nb, undef, undef], []⟩ W := by
  unfold bops
  refine wpAnyH_ready (rs := [9, 12]) (by kernel_rfl) (by simp) ?_
  refine AllReadyH.cons rfl (fun K hK => ?_) (AllReadyH.cons rfl (fun K hK => ?_) AllReadyH.nil)
  · go_simp
    refine hK.out _ _ (hS.alloc _) (fun _ => ?_)
    try simp only [List.setIfInBounds_toArray, List.set]
    exact bl11011 hmB hQ hN (W.alloc (.cells csI 3)) (hS.alloc _) (hb.alloc hb.size _) x0 (h0.alloc _) l0 W.heap.size (Blk.new W _ _) hS.lt x3 (h3.alloc _) l3 x4 (h4.alloc _) l4 (Nat.ne_of_lt h0.lt) n03 n04 (Nat.ne_of_gt h3.lt) (Nat.ne_of_gt h4.lt) n34
  · go_simp
    refine hK.out _ _ (hS.alloc _) (fun _ => ?_)
    try simp only [List.setIfInBounds_toArray, List.set]
    exact bl10111 hmI hQ hN (W.alloc (.cells csB 4)) (hS.alloc _) (hb.alloc hb.size _) x0 (h0.alloc _) l0 W.heap.size (Blk.new W _ _) hS.lt x3 (h3.alloc _) l3 x4 (h4.alloc _) l4 (Nat.ne_of_lt h0.lt) n03 n04 (Nat.ne_of_gt h3.lt) (Nat.ne_of_gt h4.lt) n34

omit hmB in
set_option maxRecDepth 100000 in
set_option maxHeartbeats 1000000 in
theorem bl01110 (W : World) (hS : GS g0 nb np sz W) (hb : Below w.heap.size w W) (x1 : Nat) (h1 : Blk W x1 3 csI) (l1 : g0 < x1) (x2 : Nat) (h2 : Blk W x2 4 csB) (l2 : g0 < x2) (x3 : Nat) (h3 : Blk W x3 4 csB) (l3 : g0 < x3) (n12 : x1 ≠ x2) (n13 : x1 ≠ x3) (n23 : x2 ≠ x3) :
    wpAnyH Tryz.prog .any bops Q (GS g0 nb np sz) 5 #[true, true, true, true, true, true, false, true, true, true, true, true, true, true, true, true, true, true, false, false, false, false] ⟨#[.agg #[.int .i64 nb, .int .i64 np, .int .i64 sz], .pointer (some ⟨g0, 0, none⟩), .pointer none, .agg #[.int .i64 nb, .int .i64 np, .int .i64 sz], .pointer (some ⟨g0, 0, none⟩), .int .i64 nb, .pointer (some ⟨g0, 1, none⟩), .int .i64 np, .int .i64 N, undef, .pointer (some ⟨g0, 0, none⟩), .int .i64 nb, .slice (some ⟨x1, 0, none⟩) nb nb, .pointer (some ⟨g0, 0, none⟩), .int .i64 nb, .slice (some ⟨x2, 0, none⟩) nb nb, .pointer (some ⟨g0, 0, none⟩), .int .i64 nb, .slice (some ⟨x3, 0, none⟩) nb nb, .pointer (some ⟨g0, 0, none⟩), .int .i64 nb, undef, undef, undef], []⟩ W := by
  unfold bops
  refine wpAnyH_ready (rs := [6, 18]) (by kernel_rfl) (by simp) ?_
  refine AllReadyH.cons rfl (fun K hK => ?_) (AllReadyH.cons rfl (fun K hK => ?_) AllReadyH.nil)
  · go_simp
    refine hK.out _ _ (hS.alloc _) (fun _ => ?_)
    try simp only [List.setIfInBounds_toArray, List.set]
    exact bl11110 hmI hQ hN (W.alloc (.cells csP 40)) (hS.alloc _) (hb.alloc hb.size _) W.heap.size (Blk.new W _ _) hS.lt x1 (h1.alloc _) l1 x2 (h2.alloc _) l2 x3 (h3.alloc _) l3 (Nat.ne_of_gt h1.lt) (Nat.ne_of_gt h2.lt) (Nat.ne_of_gt h3.lt) n12 n13 n23
  · go_simp
    refine hK.out _ _ (hS.alloc _) (fun _ => ?_)
    try simp only [List.setIfInBounds_toArray, List.set]
    exact bl01111 hmP hQ hN (W.alloc (.cells csI 3)) (hS.alloc _) (hb.alloc hb.size _) x1 (h1.alloc _) l1 x2 (h2.alloc _) l2 x3 (h3.alloc _) l3 W.heap.size (Blk.new W _ _) hS.lt n12 n13 (Nat.ne_of_lt h1.lt) n23 (Nat.ne_of_lt h2.lt) (Nat.ne_of_lt h3.lt)

omit hmI in
set_option maxRecDepth 100000 in
set_option maxHeartbeats 1000000 in
theorem bl01101 (W : World) (hS : GS g0 nb np sz W) (hb : Below w.heap.size w W) (x1 : Nat) (h1 : Blk W x1 3 csI) (l1 : g0 < x1) (x2 : Nat) (h2 : Blk W x2 4 csB) (l2 : g0 < x2) (x4 : Nat) (h4 : Blk W x4 3 csI) (l4 : g0 < x4) (n12 : x1 ≠ x2) (n14 : x1 ≠ x4) (n24 : x2 ≠ x4) :
    wpAnyH Tryz.prog .any bops Q (GS g0 nb np sz) 5 #[true, true, true, true, true, true, false, true, true, true, true, true, true, true, true, false, true, true, true, false, false, false] ⟨#[.agg #[.int .i64 nb, .int .i64 np, .int .i64 sz], .pointer (some ⟨g0, 0, none⟩), .pointer none, .agg #[.int .i64 nb, .int .i64 np, .int .i64 sz], .pointer (some ⟨g0, 0, none⟩), .int .i64 nb, .pointer (some ⟨g0, 1, none⟩), .int .i64 np, .int .i64 N, undef, .pointer (some ⟨g0, 0, none⟩), .int .i64 nb, .slice (some ⟨x1, 0, none⟩) nb nb, .pointer (some ⟨g0, 0, none⟩), .int .i64 nb, .slice (some ⟨x2, 0, none⟩) nb nb, .pointer (some ⟨g0, 0, none⟩), .int .i64 nb, undef, .pointer (some ⟨g0, 0, none⟩), .int .i64 nb, .slice (some ⟨x4, 0, none⟩) nb nb, undef, undef], []⟩ W := by
  unfold bops
  refine wpAnyH_ready (rs := [6, 15]) (by kernel_rfl) (by simp) ?_
  refine AllReadyH.cons rfl (fun K hK => ?_) (AllReadyH.cons rfl (fun K hK => ?_) AllReadyH.nil)
  · go_simp
    refine hK.out _ _ (hS.alloc _) (fun _ => ?_)
    try simp only [List.setIfInBounds_toArray, List.set]
    exact bl11101 hmB hQ hN (W.alloc (.cells csP 40)) (hS.alloc _) (hb.alloc hb.size _) W.heap.size (Blk.new W _ _) hS.lt x1 (h1.alloc _) l1 x2 (h2.alloc _) l2 x4 (h4.alloc _) l4 (Nat.ne_of_gt h1.lt) (Nat.ne_of_gt h2.lt) (Nat.ne_of_gt h4.lt) n12 n14 n24
  · go_simp
    refine hK.out _ _ (hS.alloc _) (fun _ => ?_)
    try simp only [List.setIfInBounds_toArray, List.set]
    exact bl01111 hmP hQ hN (W.alloc (.cells csB 4)) (hS.alloc _) (hb.alloc hb.size _) x1 (h1.alloc _) l1 x2 (h2.alloc _) l2 W.heap.size (Blk.new W _ _) hS.lt x4 (h4.alloc _) l4 n12 (Nat.ne_of_lt h1.lt) n14 (Nat.ne_of_lt h2.lt) n24 (Nat.ne_of_gt h4.lt)

omit hmI in
set_option maxRecDepth 100000 in
set_option maxHeartbeats 1000000 in
theorem bl01011 (W : World) (hS : GS g0 nb np sz W) (hb : Below w.heap.size w W) (x1 : Nat) (h1 : Blk W x1 3 csI) (l1 : g0 < x1) (x3 : Nat) (h3 : Blk W x3 4 csB) (l3 : g0 < x3) (x4 : Nat) (h4 : Blk W x4 3 csI) (l4 : g0 < x4) (n13 : x1 ≠ x3) (n14 : x1 ≠ x4) (n34 : x3 ≠ x4) :
    wpAnyH Tryz.prog .any bops Q (GS g0 nb np sz) 5 #[true, true, true, true, true, true, false, true, true, true, true, true, false, true, true, true, true, true, true, false, false, false] ⟨#[.agg #[.int .i64 nb, .int .i64 np, .int .i64 sz], .pointer (some ⟨g0, 0, none⟩), .pointer none, .agg #[.int .i64 nb, .int .i64 np, .int .i64 sz], .pointer (some ⟨g0, 0, none⟩), .int .i64 nb, .pointer (some ⟨g0, 1, none⟩), .int .i64 np, .int .i64 N, undef, .pointer (some ⟨g0, 0, none⟩), .int .i64 nb, .slice (some ⟨x1, 0, none⟩) nb nb, .pointer (some ⟨g0, 0, none⟩), .int .i64 nb, undef, .pointer (some ⟨g0, 0, none⟩), .int .i64 nb, .slice (some ⟨x3, 0, none⟩) nb nb, .pointer (some ⟨g0, 0, none⟩), .int .i64 nb, .slice (some ⟨x4, 0, none⟩) nb nb, undef, undef], []⟩ W := by
  unfold bops
  refine wpAnyH_ready (rs := [6, 12]) (by kernel_rfl) (by simp) ?_
  refine AllReadyH.cons rfl (fun K hK => ?_) (AllReadyH.cons rfl (fun K hK => ?_) AllReadyH.nil)
  · go_simp
    refine hK.out _ _ (hS.alloc _) (fun _ => ?_)
    try simp only [List.setIfInBounds_toArray, List.set]
    exact bl11011 hmB hQ hN (W.alloc (.cells csP 40)) (hS.alloc _) (hb.alloc hb.size _) W.heap.size (Blk.new W _ _) hS.lt x1 (h1.alloc _) l1 x3 (h3.alloc _) l3 x4 (h4.alloc _) l4 (Nat.ne_of_gt h1.lt) (Nat.ne_of_gt h3.lt) (Nat.ne_of_gt h4.lt) n13 n14 n34
  · go_simp
    refine hK.out _ _ (hS.alloc _) (fun _ => ?_)
    try simp only [List.setIfInBounds_toArray, List.set]
    exact bl01111 hmP hQ hN (W.alloc (.cells csB 4)) (hS.alloc _) (hb.alloc hb.size _) x1 (h1.alloc _) l1 W.heap.size (Blk.new W _ _) hS.lt x3 (h3.alloc _) l3 x4 (h4.alloc _) l4 (Nat.ne_of_lt h1.lt) n13 n14 (Nat.ne_of_gt h3.lt) (Nat.ne_of_gt h4.lt) n34

omit hmB in
set_option maxRecDepth 100000 in
set_option maxHeartbeats 1000000 in
theorem bl00111 (W : World) (hS : GS g0 nb np sz W) (hb : Below w.heap.size w W) (x2 : Nat) (h2 : Blk W x2 4 csB) (l2 : g0 < x2) (x3 : Nat) (h3 : Blk W x3 4 csB) (l3 : g0 < x3) (x4 : Nat) (h4 : Blk W x4 3 csI) (l4 : g0 < x4) (n23 : x2 ≠ x3) (n24 : x2 ≠ x4) (n34 : x3 ≠ x4) :
    wpAnyH Tryz.prog .any bops Q (GS g0 nb np sz) 5 #[true, true, true, true, true, true, false, true, true, false, true, true, true, true, true, true, true, true, true, false, false, false] ⟨#[.agg #[.int .i64 nb, .int .i64 np, .int .i64 sz], .pointer (some ⟨g0, 0, none⟩), .pointer none, .agg #[.int .i64 nb, .int .i64 np, .int .i64 sz], .pointer (some ⟨g0, 0, none⟩), .int .i64 nb, .pointer (some ⟨g0, 1, none⟩), .int .i64 np, .int .i64 N, undef, .pointer (some ⟨g0, 0, none⟩), .int .i64 nb, undef, .pointer (some ⟨g0, 0, none⟩), .int .i64 nb, .slice (some ⟨x2, 0, none⟩) nb nb, .pointer (some ⟨g0, 0, none⟩), .int .i64 nb, .slice (some ⟨x3, 0, none⟩) nb nb, .pointer (some ⟨g0, 0, none⟩), .int .i64 nb, .slice (some ⟨x4, 0, none⟩) nb nb, undef, undef], []⟩ W := by
  unfold bops
  refine wpAnyH_ready (rs := [6, 9]) (by kernel_rfl) (by simp) ?_
  refine AllReadyH.cons rfl (fun K hK => ?_) (AllReadyH.cons rfl (fun K hK => ?_) AllReadyH.nil)
  · go_simp
    refine hK.out _ _ (hS.alloc _) (fun _ => ?_)
    try simp only [List.setIfInBounds_toArray, List.set]
    exact bl10111 hmI hQ hN (W.alloc (.cells csP 40)) (hS.alloc _) (hb.alloc hb.size _) W.heap.size (Blk.new W _ _) hS.lt x2 (h2.alloc _) l2 x3 (h3.alloc _) l3 x4 (h4.alloc _) l4 (Nat.ne_of_gt h2.lt) (Nat.ne_of_gt h3.lt) (Nat.ne_of_gt h4.lt) n23 n24 n34
  · go_simp
    refine hK.out _ _ (hS.alloc _) (fun _ => ?_)
    try simp only [List.setIfInBounds_toArray, List.set]
    exact bl01111 hmP hQ hN (W.alloc (.cells csI 3)) (hS.alloc _) (hb.alloc hb.size _) W.heap.size (Blk.new W _ _) hS.lt x2 (h2.alloc _) l2 x3 (h3.alloc _) l3 x4 (h4.alloc _) l4 (Nat.ne_of_gt h2.lt) (Nat.ne_of_gt h3.lt) (Nat.ne_of_gt h4.lt) n23 n24 n34

omit hmP in
set_option maxRecDepth 100000 in
set_option maxHeartbeats 1000000 in
theorem bl11000 (W : World) (hS : GS g0 nb np sz W) (hb : Below w.heap.size w W) (x0 : Nat) (h0 : Blk W x0 40 csP) (l0 : g0 < x0) (x1 : Nat) (h1 : Blk W x1 3 csI) (l1 : g0 < x1) (n01 : x0 ≠ x1) :
    wpAnyH Tryz.prog .any bops Q (GS g0 nb np sz) 6 #[true, true, true, true, true, true, true, true, true, true, true, true, false, true, true, false, true, true, false, false, false, false] ⟨#[.agg #[.int .i64 nb, .int .i64 np, .int .i64 sz], .pointer (some ⟨g0, 0, none⟩), .pointer none, .agg #[.int .i64 nb, .int .i64 np, .int .i64 sz], .pointer (some ⟨g0, 0, none⟩), .int .i64 nb, .pointer (some ⟨g0, 1, none⟩), .int .i64 np, .int .i64 N, .slice (some ⟨x0, 0, none⟩) N N, .pointer (some ⟨g0, 0, none⟩), .int .i64 nb, .slice (some ⟨x1, 0, none⟩) nb nb, .pointer (some ⟨g0, 0, none⟩), .int .i64 nb, undef, .pointer (some ⟨g0, 0, none⟩), .int .i64 nb, undef, .pointer (some ⟨g0, 0, none⟩), .int .i64 nb, undef, undef, undef], []⟩ W := by
  unfold bops
  refine wpAnyH_ready (rs := [12, 15, 18]) (by kernel_rfl) (by simp) ?_
  refine AllReadyH.cons rfl (fun K hK => ?_) (AllReadyH.cons rfl (fun K hK => ?_) (AllReadyH.cons rfl (fun K hK => ?_) AllReadyH.nil))
  · go_simp
    refine hK.out _ _ (hS.alloc _) (fun _ => ?_)
    try simp only [List.setIfInBounds_toArray, List.set]
    exact bl11100 hmI hmB hQ hN (W.alloc (.cells csB 4)) (hS.alloc _) (hb.alloc hb.size _) x0 (h0.alloc _) l0 x1 (h1.alloc _) l1 W.heap.size (Blk.new W _ _) hS.lt n01 (Nat.ne_of_lt h0.lt) (Nat.ne_of_lt h1.lt)
  · go_simp
    refine hK.out _ _ (hS.alloc _) (fun _ => ?_)
    try simp only [List.setIfInBounds_toArray, List.set]
    exact bl11010 hmI hmB hQ hN (W.alloc (.cells csB 4)) (hS.alloc _) (hb.alloc hb.size _) x0 (h0.alloc _) l0 x1 (h1.alloc _) l1 W.heap.size (Blk.new W _ _) hS.lt n01 (Nat.ne_of_lt h0.lt) (Nat.ne_of_lt h1.lt)
  · go_simp
    refine hK.out _ _ (hS.alloc _) (fun _ => ?_)
    try simp only [List.setIfInBounds_toArray, List.set]
    exact bl11001 hmB hQ hN (W.alloc (.cells csI 3)) (hS.alloc _) (hb.alloc hb.size _) x0 (h0.alloc _) l0 x1 (h1.alloc _) l1 W.heap.size (Blk.new W _ _) hS.lt n01 (Nat.ne_of_lt h0.lt) (Nat.ne_of_lt h1.lt)

omit hmP in
set_option maxRecDepth 100000 in
set_option maxHeartbeats 1000000 in
theorem bl10100 (W : World) (hS : GS g0 nb np sz W) (hb : Below w.heap.size w W) (x0 : Nat) (h0 : Blk W x0 40 csP) (l0 : g0 < x0) (x2 : Nat) (h2 : Blk W x2 4 csB) (l2 : g0 < x2) (n02 : x0 ≠ x2) :
    wpAnyH Tryz.prog .any bops Q (GS g0 nb np sz) 6 #[true, true, true, true, true, true, true, true, true, false, true, true, true, true, true, false, true, true, false, false, false, false] ⟨#[.agg #[.int .i64 nb, .int .i64 np, .int .i64 sz], .pointer (some ⟨g0, 0, none⟩), .pointer none, .agg #[.int .i64 nb, .int .i64 np, .int .i64 sz], .pointer (some ⟨g0, 0, none⟩), .int .i64 nb, .pointer (some ⟨g0, 1, none⟩), .int .i64 np, .int .i64 N, .slice (some ⟨x0, 0, none⟩) N N, .pointer (some ⟨g0, 0, none⟩), .int .i64 nb, undef, .pointer (some ⟨g0, 0, none⟩), .int .i64 nb, .slice (some ⟨x2, 0, none⟩) nb nb, .pointer (some ⟨g0, 0, none⟩), .int .i64 nb, undef, .pointer (some ⟨g0, 0, none⟩), .int .i64 nb, undef, undef, undef], []⟩ W := by
  unfold bops
  refine wpAnyH_ready (rs := [9, 15, 18]) (by kernel_rfl) (by simp) ?_
  refine AllReadyH.cons rfl (fun K hK => ?_) (AllReadyH.cons rfl (fun K hK => ?_) (AllReadyH.cons rfl (fun K hK => ?_) AllReadyH.nil))
  · go_simp
    refine hK.out _ _ (hS.alloc _) (fun _ => ?_)
    try simp only [List.setIfInBounds_toArray, List.set]
    exact bl11100 hmI hmB hQ hN (W.alloc (.cells csI 3)) (hS.alloc _) (hb.alloc hb.size _) x0 (h0.alloc _) l0 W.heap.size (Blk.new W _ _) hS.lt x2 (h2.alloc _) l2 (Nat.ne_of_lt h0.lt) n02 (Nat.ne_of_gt h2.lt)
  · go_simp
    refine hK.out _ _ (hS.alloc _) (fun _ => ?_)
    try simp only [List.setIfInBounds_toArray, List.set]
    exact bl10110 hmI hQ hN (W.alloc (.cells csB 4)) (hS.alloc _) (hb.alloc hb.size _) x0 (h0.alloc _) l0 x2 (h2.alloc _) l2 W.heap.size (Blk.new W _ _) hS.lt n02 (Nat.ne_of_lt h0.lt) (Nat.ne_of_lt h2.lt)
  · go_simp
    refine hK.out _ _ (hS.alloc _) (fun _ => ?_)
    try simp only [List.setIfInBounds_toArray, List.set]
    exact bl10101 hmI hmB hQ hN (W.alloc (.cells csI 3)) (hS.alloc _) (hb.alloc hb.size _) x0 (h0.alloc _) l0 x2 (h2.alloc _) l2 W.heap.size (Blk.new W _ _) hS.lt n02 (Nat.ne_of_lt h0.lt) (Nat.ne_of_lt h2.lt)

omit hmP in
set_option maxRecDepth 100000 in
set_option maxHeartbeats 1000000 in
theorem bl10010 (W : World) (hS : GS g0 nb np sz W) (hb : Below w.heap.size w W) (x0 : Nat) (h0 : Blk W x0 40 csP) (l0 : g0 < x0) (x3 : Nat) (h3 : Blk W x3 4 csB) (l3 : g0 < x3) (n03 : x0 ≠ x3) :
    wpAnyH Tryz.prog .any bops Q (GS g0 nb np sz) 6 #[true, true, true, true, true, true, true, true, true, false, true, true, false, true, true, true, true, true, false, false, false, false] ⟨#[.agg #[.int .i64 nb, .int .i64 np, .int .i64 sz], .pointer (some ⟨g0, 0, none⟩), .pointer none, .agg #[.int .i64 nb, .int .i64 np, .int .i64 sz], .pointer (some ⟨g0, 0, none⟩), .int .i64 nb, .pointer (some ⟨g0, 1, none⟩), .int .i64 np, .int .i64 N, .slice (some ⟨x0, 0, none⟩) N N, .pointer (some ⟨g0, 0, none⟩), .int .i64 nb, undef, .pointer (some ⟨g0, 0, none⟩), .int .i64 nb, undef, .pointer (some ⟨g0, 0, none⟩), .int .i64 nb, .slice (some ⟨x3, 0, none⟩) nb nb, .pointer (some ⟨g0, 0, none⟩), .int .i64 nb, undef, undef, undef], []⟩ W := by
  unfold bops
  refine wpAnyH_ready (rs := [9, 12, 18]) (by kernel_rfl) (by simp) ?_
  refine AllReadyH.cons rfl (fun K hK => ?_) (AllReadyH.cons rfl (fun K hK => ?_) (AllReadyH.cons rfl (fun K hK => ?_) AllReadyH.nil))
  · go_simp
    refine hK.out _ _ (hS.alloc _) (fun _ => ?_)
    try simp only [List.setIfInBounds_toArray, List.set]
    exact bl11010 hmI hmB hQ hN (W.alloc (.cells csI 3)) (hS.alloc _) (hb.alloc hb.size _) x0 (h0.alloc _) l0 W.heap.size (Blk.new W _ _) hS.lt x3 (h3.alloc _) l3 (Nat.ne_of_lt h0.lt) n03 (Nat.ne_of_gt h3.lt)
  · go_simp
    refine hK.out _ _ (hS.alloc _) (fun _ => ?_)
    try simp only [List.setIfInBounds_toArray, List.set]
    exact bl10110 hmI hQ hN (W.alloc (.cells csB 4)) (hS.alloc _) (hb.alloc hb.size _) x0 (h0.alloc _) l0 W.heap.size (Blk.new W _ _) hS.lt x3 (h3.alloc _) l3 (Nat.ne_of_lt h0.lt) n03 (Nat.ne_of_gt h3.lt)
  · go_simp
    refine hK.out _ _ (hS.alloc _) (fun _ => ?_)
    try simp only [List.setIfInBounds_toArray, List.set]
    exact bl10011 hmI hmB hQ hN (W.alloc (.cells csI 3)) (hS.alloc _) (hb.alloc hb.size _) x0 (h0.alloc _) l0 x3 (h3.alloc _) l3 W.heap.size (Blk.new W _ _) hS.lt n03 (Nat.ne_of_lt h0.lt) (Nat.ne_of_lt h3.lt)

omit hmP in
set_option maxRecDepth 100000 in
set_option maxHeartbeats 1000000 in
theorem bl10001 (W : World) (hS : GS g0 nb np sz W) (hb : Below w.heap.size w W) (x0 : Nat) (h0 : Blk W x0 40 csP) (l0 : g0 < x0) (x4 : Nat) (h4 : Blk W x4 3 csI) (l4 : g0 < x4) (n04 : x0 ≠ x4) :
    wpAnyH Tryz.prog .any bops Q (GS g0 nb np sz) 6 #[true, true, true, true, true, true, true, true, true, false, true, true, false, true, true, false, true, true, true, false, false, false] ⟨#[.agg #[.int .i64 nb, .int .i64 np, .int .i64 sz], .pointer (some ⟨g0, 0, none⟩), .pointer none, .agg #[.int .i64 nb, .int .i64 np, .int .i64 sz], .pointer (some ⟨g0, 0, none⟩), .int .i64 nb, .pointer (some ⟨g0, 1, none⟩), .int .i64 np, .int .i64 N, .slice (some ⟨x0, 0, none⟩) N N, .pointer (some ⟨g0, 0, none⟩), .int .i64 nb, undef, .pointer (some ⟨g0, 0, none⟩), .int .i64 nb, undef, .pointer (some ⟨g0, 0, none⟩), .int .i64 nb, undef, .pointer (some ⟨g0, 0, none⟩), .int .i64 nb, .slice (some ⟨x4, 0, none⟩) nb nb, undef, undef], []⟩ W := by
  unfold bops
  refine wpAnyH_ready (rs := [9, 12, 15]) (by kernel_rfl) (by simp) ?_
  refine AllReadyH.cons rfl (fun K hK => ?_) (AllReadyH.cons rfl (fun K hK => ?_) (AllReadyH.cons rfl (fun K hK => ?_) AllReadyH.nil))
  · go_simp
    refine hK.out _ _ (hS.alloc _) (fun _ => ?_)
    try simp only [List.setIfInBounds_toArray, List.set]
    exact bl11001 hmB hQ hN (W.alloc (.cells csI 3)) (hS.alloc _) (hb.alloc hb.size _) x0 (h0.alloc _) l0 W.heap.size (Blk.new W _ _) hS.lt x4 (h4.alloc _) l4 (Nat.ne_of_lt h0.lt) n04 (Nat.ne_of_gt h4.lt)
  · go_simp
    refine hK.out _ _ (hS.alloc _) (fun _ => ?_)
    try simp only [List.setIfInBounds_toArray, List.set]
    exact bl10101 hmI hmB hQ hN (W.alloc (.cells csB 4)) (hS.alloc _) (hb.alloc hb.size _) x0 (h0.alloc _) l0 W.heap.size (Blk.new W _ _) hS.lt x4 (h4.alloc _) l4 (Nat.ne_of_lt h0.lt) n04 (Nat.ne_of_gt h4.lt)
  · go_simp
    refine hK.out _ _ (hS.alloc _) (fun _ => ?_)
    try simp only [List.setIfInBounds_toArray, List.set]
    exact bl10011 hmI hmB hQ hN (W.alloc (.cells csB 4)) (hS.alloc _) (hb.alloc hb.size _) x0 (h0.alloc _) l0 W.heap.size (Blk.new W _ _) hS.lt x4 (h4.alloc _) l4 (Nat.ne_of_lt h0.lt) n04 (Nat.ne_of_gt h4.lt)

set_option maxRecDepth 100000 in
set_option maxHeartbeats 1000000 in
theorem bl01100 (W : World) (hS : GS g0 nb np sz W) (hb : Below w.heap.size w W) (x1 : Nat) (h1 : Blk W x1 3 csI) (l1 : g0 < x1) (x2 : Nat) (h2 : Blk W x2 4 csB) (l2 : g0 < x2) (n12 : x1 ≠ x2) :
    wpAnyH Tryz.prog .any bops Q (GS g0 nb np sz) 6 #[true, true, true, true, true, true, false, true, true, true, true, true, true, true, true, false, true, true, false, false, false, false] ⟨#[.agg #[.int .i64 nb, .int .i64 np, .int .i64 sz], .pointer (some ⟨g0, 0, none⟩), .pointer none, .agg #[.int .i64 nb, .int .i64 np, .int .i64 sz], .pointer (some ⟨g0, 0, none⟩), .int .i64 nb, .pointer (some ⟨g0, 1, none⟩), .int .i64 np, .int .i64 N, undef, .pointer (some ⟨g0, 0, none⟩), .int .i64 nb, .slice (some ⟨x1, 0, none⟩) nb nb, .pointer (some ⟨g0, 0, none⟩), .int .i64 nb, .slice (some ⟨x2, 0, none⟩) nb nb, .pointer (some ⟨g0, 0, none⟩), .int .i64 nb, undef, .pointer (some ⟨g0, 0, none⟩), .int .i64 nb, undef, undef, undef], []⟩ W := by
  unfold bops
  refine wpAnyH_ready (rs := [6, 15, 18]) (by kernel_rfl) (by simp) ?_
  refine AllReadyH.cons rfl (fun K hK => ?_) (AllReadyH.cons rfl (fun K hK => ?_) (AllReadyH.cons rfl (fun K hK => ?_) AllReadyH.nil))
  · go_simp
    refine hK.out _ _ (hS.alloc _) (fun _ => ?_)
    try simp only [List.setIfInBounds_toArray, List.set]
    exact bl11100 hmI hmB hQ hN (W.alloc (.cells csP 40)) (hS.alloc _) (hb.alloc hb.size _) W.heap.size (Blk.new W _ _) hS.lt x1 (h1.alloc _) l1 x2 (h2.alloc _) l2 (Nat.ne_of_gt h1.lt) (Nat.ne_of_gt h2.lt) n12
  · go_simp
    refine hK.out _ _ (hS.alloc _) (fun _ => ?_)
    try simp only [List.setIfInBounds_toArray, List.set]
    exact bl01110 hmI hmP hQ hN (W.alloc (.cells csB 4)) (hS.alloc _) (hb.alloc hb.size _) x1 (h1.alloc _) l1 x2 (h2.alloc _) l2 W.heap.size (Blk.new W _ _) hS.lt n12 (Nat.ne_of_lt h1.lt) (Nat.ne_of_lt h2.lt)
  · go_simp
    refine hK.out _ _ (hS.alloc _) (fun _ => ?_)
    try simp only [List.setIfInBounds_toArray, List.set]
    exact bl01101 hmB hmP hQ hN (W.alloc (.cells csI 3)) (hS.alloc _) (hb.alloc hb.size _) x1 (h1.alloc _) l1 x2 (h2.alloc _) l2 W.heap.size (Blk.new W _ _) hS.lt n12 (Nat.ne_of_lt h1.lt) (Nat.ne_of_lt h2.lt)

set_option maxRecDepth 100000 in
set_option maxHeartbeats 1000000 in
theorem bl01010 (W : World) (hS : GS g0 nb np sz W) (hb : Below w.heap.size w W) (x1 : Nat) (h1 : Blk W x1 3 csI) (l1 : g0 < x1) (x3 : Nat) (h3 : Blk W x3 4 csB) (l3 : g0 < x3) (n13 : x1 ≠ x3) :
    wpAnyH Tryz.prog .any bops Q (GS g0 nb np sz) 6 #[true, true, true, true, true, true, false, true, true, true, true, true, false, true, true, true, true, true, false, false, false, false] ⟨#[.agg #[.int .i64 nb, .int .i64 np, .int .i64 sz], .pointer (some ⟨g0, 0, none⟩), .pointer none, .agg #[.int .i64 nb, .int .i64 np, .int .i64 sz], .pointer (some ⟨g0, 0, none⟩), .int .i64 nb, .pointer (some ⟨g0, 1, none⟩), .int .i64 np, .int .i64 N, undef, .pointer (some ⟨g0, 0, none⟩), .int .i64 nb, .slice (some ⟨x1, 0, none⟩) nb nb, .pointer (some ⟨g0, 0, none⟩), .int .i64 nb, undef, .pointer (some ⟨g0, 0, none⟩), .int .i64 nb, .slice (some ⟨x3, 0, none⟩) nb nb, .pointer (some ⟨g0, 0, none⟩), .int .i64 nb, undef, undef, undef], []⟩ W := by
  unfold bops
  refine wpAnyH_ready (rs := [6, 12, 18]) (by kernel_rfl) (by simp) ?_
  refine AllReadyH.cons rfl (fun K hK => ?_) (AllReadyH.cons rfl (fun K hK => ?_) (AllReadyH.cons rfl (fun K hK => ?_) AllReadyH.nil))
  · go_simp
    refine hK.out _ _ (hS.alloc _) (fun _ => ?_)
    try simp only [List.setIfInBounds_toArray, List.set]
    exact bl11010 hmI hmB hQ hN (W.alloc (.cells csP 40)) (hS.alloc _) (hb.alloc hb.size _) W.heap.size (Blk.new W _ _) hS.lt x1 (h1.alloc _) l1 x3 (h3.alloc _) l3 (Nat.ne_of_gt h1.lt) (Nat.ne_of_gt h3.lt) n13
  · go_simp
    refine hK.out _ _ (hS.alloc _) (fun _ => ?_)
    try simp only [List.setIfInBounds_toArray, List.set]
    exact bl01110 hmI hmP hQ hN (W.alloc (.cells csB 4)) (hS.alloc _) (hb.alloc hb.size _) x1 (h1.alloc _) l1 W.heap.size (Blk.new W _ _) hS.lt x3 (h3.alloc _) l3 (Nat.ne_of_lt h1.lt) n13 (Nat.ne_of_gt h3.lt)
  · go_simp
    refine hK.out _ _ (hS.alloc _) (fun _ => ?_)
    try simp only [List.setIfInBounds_toArray, List.set]
    exact bl01011 hmB hmP hQ hN (W.alloc (.cells csI 3)) (hS.alloc _) (hb.alloc hb.size _) x1 (h1.alloc _) l1 x3 (h3.alloc _) l3 W.heap.size (Blk.new W _ _) hS.lt n13 (Nat.ne_of_lt h1.lt) (Nat.ne_of_lt h3.lt)

omit hmI in
set_option maxRecDepth 100000 in
set_option maxHeartbeats 1000000 in
theorem bl01001 (W : World) (hS : GS g0 nb np sz W) (hb : Below w.heap.size w W) (x1 : Nat) (h1 : Blk W x1 3 csI) (l1 : g0 < x1) (x4 : Nat) (h4 : Blk W x4 3 csI) (l4 : g0 < x4) (n14 : x1 ≠ x4) :
    wpAnyH Tryz.prog .any bops Q (GS g0 nb np sz) 6 #[true, true, true, true, true, true, false, true, true, true, true, true, false, true, true, false, true, true, true, false, false, false] ⟨#[.agg #[.int .i64 nb, .int .i64 np, .int .i64 sz], .pointer (some ⟨g0, 0, none⟩), .pointer none, .agg #[.int .i64 nb, .int .i64 np, .int .i64 sz], .pointer (some ⟨g0, 0, none⟩), .int .i64 nb, .pointer (some ⟨g0, 1, none⟩), .int .i64 np, .int .i64 N, undef, .pointer (some ⟨g0, 0, none⟩), .int .i64 nb, .slice (some ⟨x1, 0, none⟩) nb nb, .pointer (some ⟨g0, 0, none⟩), .int .i64 nb, undef, .pointer (some ⟨g0, 0, none⟩), .int .i64 nb, undef, .pointer (some ⟨g0, 0, none⟩), .int .i64 nb, .slice (some ⟨x4, 0, none⟩) nb nb, undef, undef], []⟩ W := by
  unfold bops
  refine wpAnyH_ready (rs := [6, 12, 15]) (by kernel_rfl) (by simp) ?_
  refine AllReadyH.cons rfl (fun K hK => ?_) (AllReadyH.cons rfl (fun K hK => ?_) (AllReadyH.cons rfl (fun K hK => ?_) AllReadyH.nil))
  · go_simp
    refine hK.out _ _ (hS.alloc _) (fun _ => ?_)
    try simp only [List.setIfInBounds_toArray, List.set]
    exact bl11001 hmB hQ hN (W.alloc (.cells csP 40)) (hS.alloc _) (hb.alloc hb.size _) W.heap.size (Blk.new W _ _) hS.lt x1 (h1.alloc _) l1 x4 (h4.alloc _) l4 (Nat.ne_of_gt h1.lt) (Nat.ne_of_gt h4.lt) n14
  · go_simp
    refine hK.out _ _ (hS.alloc _) (fun _ => ?_)
    try simp only [List.setIfInBounds_toArray, List.set]
    exact bl01101 hmB hmP hQ hN (W.alloc (.cells csB 4)) (hS.alloc _) (hb.alloc hb.size _) x1 (h1.alloc _) l1 W.heap.size (Blk.new W _ _) hS.lt x4 (h4.alloc _) l4 (Nat.ne_of_lt h1.lt) n14 (Nat.ne_of_gt h4.lt)
  · go_simp
    refine hK.out _ _ (hS.alloc _) (fun _ => ?_)
    try simp only [List.setIfInBounds_toArray, List.set]
    exact bl01011 hmB hmP hQ hN (W.alloc (.cells csB 4)) (hS.alloc _) (hb.alloc hb.size _) x1 (h1.alloc _) l1 W.heap.size (Blk.new W _ _) hS.lt x4 (h4.alloc _) l4 (Nat.ne_of_lt h1.lt) n14 (Nat.ne_of_gt h4.lt)

omit hmB in
set_option maxRecDepth 100000 in
set_option maxHeartbeats 1000000 in
theorem bl00110 (W : World) (hS : GS g0 nb np sz W) (hb : Below w.heap.size w W) (x2 : Nat) (h2 : Blk W x2 4 csB) (l2 : g0 < x2) (x3 : Nat) (h3 : Blk W x3 4 csB) (l3 : g0 < x3) (n23 : x2 ≠ x3) :
    wpAnyH Tryz.prog .any bops Q (GS g0 nb np sz) 6 #[true, true, true, true, true, true, false, true, true, false, true, true, true, true, true, true, true, true, false, false, false, false] ⟨#[.agg #[.int .i64 nb, .int .i64 np, .int .i64 sz], .pointer (some ⟨g0, 0, none⟩), .pointer none, .agg #[.int .i64 nb, .int .i64 np, .int .i64 sz], .pointer (some ⟨g0, 0, none⟩), .int .i64 nb, .pointer (some ⟨g0, 1, none⟩), .int .i64 np, .int .i64 N, undef, .pointer (some ⟨g0, 0, none⟩), .int .i64 nb, undef, .pointer (some ⟨g0, 0, none⟩), .int .i64 nb, .slice (some ⟨x2, 0, none⟩) nb nb, .pointer (some ⟨g0, 0, none⟩), .int .i64 nb, .slice (some ⟨x3, 0, none⟩) nb nb, .pointer (some ⟨g0, 0, none⟩), .int .i64 nb, undef, undef, undef], []⟩ W := by
  unfold bops
  refine wpAnyH_ready (rs := [6, 9, 18]) (by kernel_rfl) (by simp) ?_
  refine AllReadyH.cons rfl (fun K hK => ?_) (AllReadyH.cons rfl (fun K hK => ?_) (AllReadyH.cons rfl (fun K hK => ?_) AllReadyH.nil))
  · go_simp
    refine hK.out _ _ (hS.alloc _) (fun _ => ?_)
    try simp only [List.setIfInBounds_toArray, List.set]
    exact bl10110 hmI hQ hN (W.alloc (.cells csP 40)) (hS.alloc _) (hb.alloc hb.size _) W.heap.size (Blk.new W _ _) hS.lt x2 (h2.alloc _) l2 x3 (h3.alloc _) l3 (Nat.ne_of_gt h2.lt) (Nat.ne_of_gt h3.lt) n23
  · go_simp
    refine hK.out _ _ (hS.alloc _) (fun _ => ?_)
    try simp only [List.setIfInBounds_toArray, List.set]
    exact bl01110 hmI hmP hQ hN (W.alloc (.cells csI 3)) (hS.alloc _) (hb.alloc hb.size _) W.heap.size (Blk.new W _ _) hS.lt x2 (h2.alloc _) l2 x3 (h3.alloc _) l3 (Nat.ne_of_gt h2.lt) (Nat.ne_of_gt h3.lt) n23
  · go_simp
    refine hK.out _ _ (hS.alloc _) (fun _ => ?_)
    try simp only [List.setIfInBounds_toArray, List.set]
    exact bl00111 hmI hmP hQ hN (W.alloc (.cells csI 3)) (hS.alloc _) (hb.alloc hb.size _) x2 (h2.alloc _) l2 x3 (h3.alloc _) l3 W.heap.size (Blk.new W _ _) hS.lt n23 (Nat.ne_of_lt h2.lt) (Nat.ne_of_lt h3.lt)

set_option maxRecDepth 100000 in
set_option maxHeartbeats 1000000 in
theorem bl00101 (W : World) (hS : GS g0 nb np sz W) (hb : Below w.heap.size w W) (x2 : Nat) (h2 : Blk W x2 4 csB) (l2 : g0 < x2) (x4 : Nat) (h4 : Blk W x4 3 csI) (l4 : g0 < x4) (n24 : x2 ≠ x4) :
    wpAnyH Tryz.prog .any bops Q (GS g0 nb np sz) 6 #[true, true, true, true, true, true, false, true, true, false, true, true, true, true, true, false, true, true, true, false, false, false] ⟨#[.agg #[.int .i64 nb, .int .i64 np, .int .i64 sz], .pointer (some ⟨g0, 0, none⟩), .pointer none, .agg #[.int .i64 nb, .int .i64 np, .int .i64 sz], .pointer (some ⟨g0, 0, none⟩), .int .i64 nb, .pointer (some ⟨g0, 1, none⟩), .int .i64 np, .int .i64 N, undef, .pointer (some ⟨g0, 0, none⟩), .int .i64 nb, undef, .pointer (some ⟨g0, 0, none⟩), .int .i64 nb, .slice (some ⟨x2, 0, none⟩) nb nb, .pointer (some ⟨g0, 0, none⟩), .int .i64 nb, undef, .pointer (some ⟨g0, 0, none⟩), .int .i64 nb, .slice (some ⟨x4, 0, none⟩) nb nb, undef, undef], []⟩ W := by
  unfold bops
  refine wpAnyH_ready (rs := [6, 9, 15]) (by kernel_rfl) (by simp) ?_
  refine AllReadyH.cons rfl (fun K hK => ?_) (AllReadyH.cons rfl (fun K hK => ?_) (AllReadyH.cons rfl (fun K hK => ?_) AllReadyH.nil))
  · go_simp
    refine hK.out _ _ (hS.alloc _) (fun _ => ?_)
    try simp only [List.setIfInBounds_toArray, List.set]
    exact bl10101 hmI hmB hQ hN (W.alloc (.cells csP 40)) (hS.alloc _) (hb.alloc hb.size _) W.heap.size (Blk.new W _ _) hS.lt x2 (h2.alloc _) l2 x4 (h4.alloc _) l4 (Nat.ne_of_gt h2.lt) (Nat.ne_of_gt h4.lt) n24
  · go_simp
    refine hK.out _ _ (hS.alloc _) (fun _ => ?_)
    try simp only [List.setIfInBounds_toArray, List.set]
    exact bl01101 hmB hmP hQ hN (W.alloc (.cells csI 3)) (hS.alloc _) (hb.alloc hb.size _) W.heap.size (Blk.new W _ _) hS.lt x2 (h2.alloc _) l2 x4 (h4.alloc _) l4 (Nat.ne_of_gt h2.lt) (Nat.ne_of_gt h4.lt) n24
  · go_simp
    refine hK.out _ _ (hS.alloc _) (fun _ => ?_)
    try simp only [List.setIfInBounds_toArray, List.set]
    exact bl00111 hmI hmP hQ hN (W.alloc (.cells csB 4)) (hS.alloc _) (hb.alloc hb.size _) x2 (h2.alloc _) l2 W.heap.size (Blk.new W _ _) hS.lt x4 (h4.alloc _) l4 (Nat.ne_of_lt h2.lt) n24 (Nat.ne_of_gt h4.lt)

set_option maxRecDepth 100000 in
set_option maxHeartbeats 1000000 in
theorem bl00011 (W : World) (hS : GS g0 nb np sz W) (hb : Below w.heap.size w W) (x3 : Nat) (h3 : Blk W x3 4 csB) (l3 : g0 < x3) (x4 : Nat) (h4 : Blk W x4 3 csI) (l4 : g0 < x4) (n34 : x3 ≠ x4) :
    wpAnyH Tryz.prog .any bops Q (GS g0 nb np sz) 6 #[true, true, true, true, true, true, false, true, true, false, true, true, false, true, true, true, true, true, true, false, false, false] ⟨#[.agg #[.int .i64 nb, .int .i64 np, .int .i64 sz], .pointer (some ⟨g0, 0, none⟩), .pointer none, .agg #[.int .i64 nb, .int .i64 np, .int .i64 sz], .pointer (some ⟨g0, 0, none⟩), .int .i64 nb, .pointer (some ⟨g0, 1, none⟩), .int .i64 np, .int .i64 N, undef, .pointer (some ⟨g0, 0, none⟩), .int .i64 nb, undef, .pointer (some ⟨g0, 0, none⟩), .int .i64 nb, undef, .pointer (some ⟨g0, 0, none⟩), .int .i64 nb, .slice (some ⟨x3, 0, none⟩) nb nb, .pointer (some ⟨g0, 0, none⟩), .int .i64 nb, .slice (some ⟨x4, 0, none⟩) nb nb, undef, undef], []⟩ W := by
  unfold bops
  refine wpAnyH_ready (rs := [6, 9, 12]) (by kernel_rfl) (by simp) ?_
  refine AllReadyH.cons rfl (fun K hK => ?_) (AllReadyH.cons rfl (fun K hK => ?_) (AllReadyH.cons rfl (fun K hK => ?_) AllReadyH.nil))
  · go_simp
    refine hK.out _ _ (hS.alloc _) (fun _ => ?_)
    try simp only [List.setIfInBounds_toArray, List.set]
    exact bl10011 hmI hmB hQ hN (W.alloc (.cells csP 40)) (hS.alloc _) (hb.alloc hb.size _) W.heap.size (Blk.new W _ _) hS.lt x3 (h3.alloc _) l3 x4 (h4.alloc _) l4 (Nat.ne_of_gt h3.lt) (Nat.ne_of_gt h4.lt) n34
  · go_simp
    refine hK.out _ _ (hS.alloc _) (fun _ => ?_)
    try simp only [List.setIfInBounds_toArray, List.set]
    exact bl01011 hmB hmP hQ hN (W.alloc (.cells csI 3)) (hS.alloc _) (hb.alloc hb.size _) W.heap.size (Blk.new W _ _) hS.lt x3 (h3.alloc _) l3 x4 (h4.alloc _) l4 (Nat.ne_of_gt h3.lt) (Nat.ne_of_gt h4.lt) n34
  · go_simp
    refine hK.out _ _ (hS.alloc _) (fun _ => ?_)
    try simp only [List.setIfInBounds_toArray, List.set]
    exact bl00111 hmI hmP hQ hN (W.alloc (.cells csB 4)) (hS.alloc _) (hb.alloc hb.size _) W.heap.size (Blk.new W _ _) hS.lt x3 (h3.alloc _) l3 x4 (h4.alloc _) l4 (Nat.ne_of_gt h3.lt) (Nat.ne_of_gt h4.lt) n34

omit hmP in
set_option maxRecDepth 100000 in
set_option maxHeartbeats 1000000 in
theorem bl10000 (W : World) (hS : GS g0 nb np sz W) (hb : Below w.heap.size w W) (x0 : Nat) (h0 : Blk W x0 40 csP) (l0 : g0 < x0) :
    wpAnyH Tryz.prog .any bops Q (GS g0 nb np sz) 7 #[true, true, true, true, true, true, true, true, true, false, true, true, false, true, true, false, true, true, false, false, false, false] ⟨#[.agg #[.int .i64 nb, .int .i64 np, .int .i64 sz], .pointer (some ⟨g0, 0, none⟩), .pointer none, .agg #[.int .i64 nb, .int .i64 np, .int .i64 sz], .pointer (some ⟨g0, 0, none⟩), .int .i64 nb, .pointer (some ⟨g0, 1, none⟩), .int .i64 np, .int .i64 N, .slice (some ⟨x0, 0, none⟩) N N, .pointer (some ⟨g0, 0, none⟩), .int .i64 nb, undef, .pointer (some ⟨g0, 0, none⟩), .int .i64 nb, undef, .pointer (some ⟨g0, 0, none⟩), .int .i64 nb, undef, .pointer (some ⟨g0, 0, none⟩), .int .i64 nb, undef, undef, undef], []⟩ W := by
  unfold bops
  refine wpAnyH_ready (rs := [9, 12, 15, 18]) (by kernel_rfl) (by simp) ?_
  refine AllReadyH.cons rfl (fun K hK => ?_) (AllReadyH.cons rfl (fun K hK => ?_) (AllReadyH.cons rfl (fun K hK => ?_) (AllReadyH.cons rfl (fun K hK => ?_) AllReadyH.nil)))
  · go_simp
    refine hK.out _ _ (hS.alloc _) (fun _ => ?_)
    try simp only [List.setIfInBounds_toArray, List.set]
    exact bl11000 hmI hmB hQ hN (W.alloc (.cells csI 3)) (hS.alloc _) (hb.alloc hb.size _) x0 (h0.alloc _) l0 W.heap.size (Blk.new W _ _) hS.lt (Nat.ne_of_lt h0.lt)
  · go_simp
    refine hK.out _ _ (hS.alloc _) (fun _ => ?_)
    try simp only [List.setIfInBounds_toArray, List.set]
    exact bl10100 hmI hmB hQ hN (W.alloc (.cells csB 4)) (hS.alloc _) (hb.alloc hb.size _) x0 (h0.alloc _) l0 W.heap.size (Blk.new W _ _) hS.lt (Nat.ne_of_lt h0.lt)
  · go_simp
    refine hK.out _ _ (hS.alloc _) (fun _ => ?_)
    try simp only [List.setIfInBounds_toArray, List.set]
    exact bl10010 hmI hmB hQ hN (W.alloc (.cells csB 4)) (hS.alloc _) (hb.alloc hb.size _) x0 (h0.alloc _) l0 W.heap.size (Blk.new W _ _) hS.lt (Nat.ne_of_lt h0.lt)
  · go_simp
    refine hK.out _ _ (hS.alloc _) (fun _ => ?_)
    try simp only [List.setIfInBounds_toArray, List.set]
    exact bl10001 hmI hmB hQ hN (W.alloc (.cells csI 3)) (hS.alloc _) (hb.alloc hb.size _) x0 (h0.alloc _) l0 W.heap.size (Blk.new W _ _) hS.lt (Nat.ne_of_lt h0.lt)

set_option maxRecDepth 100000 in
set_option maxHeartbeats 1000000 in
theorem bl01000 (W : World) (hS : GS g0 nb np sz W) (hb : Below w.heap.size w W) (x1 : Nat) (h1 : Blk W x1 3 csI) (l1 : g0 < x1) :
    wpAnyH Tryz.prog .any bops Q (GS g0 nb np sz) 7 #[true, true, true, true, true, true, false, true, true, true, true, true, false, true, true, false, true, true, false, false, false, false] ⟨#[.agg #[.int .i64 nb, .int .i64 np, .int .i64 sz], .pointer (some ⟨g0, 0, none⟩), .pointer none, .agg #[.int .i64 nb, .int .i64 np, .int .i64 sz], .pointer (some ⟨g0, 0, none⟩), .int .i64 nb, .pointer (some ⟨g0, 1, none⟩), .int .i64 np, .int .i64 N, undef, .pointer (some ⟨g0, 0, none⟩), .int .i64 nb, .slice (some ⟨x1, 0, none⟩) nb nb, .pointer (some ⟨g0, 0, none⟩), .int .i64 nb, undef, .pointer (some ⟨g0, 0, none⟩), .int .i64 nb, undef, .pointer (some ⟨g0, 0, none⟩), .int .i64 nb, undef, undef, undef], []⟩ W := by
  unfold bops
  refine wpAnyH_ready (rs := [6, 12, 15, 18]) (by kernel_rfl) (by simp) ?_
  refine AllReadyH.cons rfl (fun K hK => ?_) (AllReadyH.cons rfl (fun K hK => ?_) (AllReadyH.cons rfl (fun K hK => ?_) (AllReadyH.cons rfl (fun K hK => ?_) AllReadyH.nil)))
  · go_simp
    refine hK.out _ _ (hS.alloc _) (fun _ => ?_)
    try simp only [List.setIfInBounds_toArray, List.set]
    exact bl11000 hmI hmB hQ hN (W.alloc (.cells csP 40)) (hS.alloc _) (hb.alloc hb.size _) W.heap.size (Blk.new W _ _) hS.lt x1 (h1.alloc _) l1 (Nat.ne_of_gt h1.lt)
  · go_simp
    refine hK.out _ _ (hS.alloc _) (fun _ => ?_)
    try simp only [List.setIfInBounds_toArray, List.set]
    exact bl01100 hmI hmB hmP hQ hN (W.alloc (.cells csB 4)) (hS.alloc _) (hb.alloc hb.size _) x1 (h1.alloc _) l1 W.heap.size (Blk.new W _ _) hS.lt (Nat.ne_of_lt h1.lt)
  · go_simp
    refine hK.out _ _ (hS.alloc _) (fun _ => ?_)
    try simp only [List.setIfInBounds_toArray, List.set]
    exact bl01010 hmI hmB hmP hQ hN (W.alloc (.cells csB 4)) (hS.alloc _) (hb.alloc hb.size _) x1 (h1.alloc _) l1 W.heap.size (Blk.new W _ _) hS.lt (Nat.ne_of_lt h1.lt)
  · go_simp
    refine hK.out _ _ (hS.alloc _) (fun _ => ?_)
    try simp only [List.setIfInBounds_toArray, List.set]
    exact bl01001 hmB hmP hQ hN (W.alloc (.cells csI 3)) (hS.alloc _) (hb.alloc hb.size _) x1 (h1.alloc _) l1 W.heap.size (Blk.new W _ _) hS.lt (Nat.ne_of_lt h1.lt)

set_option maxRecDepth 100000 in
set_option maxHeartbeats 1000000 in
theorem bl00100 (W : World) (hS : GS g0 nb np sz W) (hb : Below w.heap.size w W) (x2 : Nat) (h2 : Blk W x2 4 csB) (l2 : g0 < x2) :
    wpAnyH Tryz.prog .any bops Q (GS g0 nb np sz) 7 #[true, true, true, true, true, true, false, true, true, false, true, true, true, true, true, false, true, true, false, false, false, false] ⟨#[.agg #[.int .i64 nb, .int .i64 np, .int .i64 sz], .pointer (some ⟨g0, 0, none⟩), .pointer none, .agg #[.int .i64 nb, .int .i64 np, .int .i64 sz], .pointer (some ⟨g0, 0, none⟩), .int .i64 nb, .pointer (some ⟨g0, 1, none⟩), .int .i64 np, .int .i64 N, undef, .pointer (some ⟨g0, 0, none⟩), .int .i64 nb, undef, .pointer (some ⟨g0, 0, none⟩), .int .i64 nb, .slice (some ⟨x2, 0, none⟩) nb nb, .pointer (some ⟨g0, 0, none⟩), .int .i64 nb, undef, .pointer (some ⟨g0, 0, none⟩), .int .i64 nb, undef, undef, undef], []⟩ W := by
  unfold bops
  refine wpAnyH_ready (rs := [6, 9, 15, 18]) (by kernel_rfl) (by simp) ?_
  refine AllReadyH.cons rfl (fun K hK => ?_) (AllReadyH.cons rfl (fun K hK => ?_) (AllReadyH.cons rfl (fun K hK => ?_) (AllReadyH.cons rfl (fun K hK => ?_) AllReadyH.nil)))
  · go_simp
    refine hK.out _ _ (hS.alloc _) (fun _ => ?_)
    try simp only [List.setIfInBounds_toArray, List.set]
    exact bl10100 hmI hmB hQ hN (W.alloc (.cells csP 40)) (hS.alloc _) (hb.alloc hb.size _) W.heap.size (Blk.new W _ _) hS.lt x2 (h2.alloc _) l2 (Nat.ne_of_gt h2.lt)
  · go_simp
    refine hK.out _ _ (hS.alloc _) (fun _ => ?_)
    try simp only [List.setIfInBounds_toArray, List.set]
    exact bl01100 hmI hmB hmP hQ hN (W.alloc (.cells csI 3)) (hS.alloc _) (hb.alloc hb.size _) W.heap.size (Blk.new W _ _) hS.lt x2 (h2.alloc _) l2 (Nat.ne_of_gt h2.lt)
  · go_simp
    refine hK.out _ _ (hS.alloc _) (fun _ => ?_)
    try simp only [List.setIfInBounds_toArray, List.set]
    exact bl00110 hmI hmP hQ hN (W.alloc (.cells csB 4)) (hS.alloc _) (hb.alloc hb.size _) x2 (h2.alloc _) l2 W.heap.size (Blk.new W _ _) hS.lt (Nat.ne_of_lt h2.lt)
  · go_simp
    refine hK.out _ _ (hS.alloc _) (fun _ => ?_)
    try simp only [List.setIfInBounds_toArray, List.set]
    exact bl00101 hmI hmB hmP hQ hN (W.alloc (.cells csI 3)) (hS.alloc _) (hb.alloc hb.size _) x2 (h2.alloc _) l2 W.heap.size (Blk.new W _ _) hS.lt (Nat.ne_of_lt h2.lt)

set_option maxRecDepth 100000 in
set_option maxHeartbeats 1000000 in
theorem bl00010 (W : World) (hS : GS g0 nb np sz W) (hb : Below w.heap.size w W) (x3 : Nat) (h3 : Blk W x3 4 csB) (l3 : g0 < x3) :
    wpAnyH Tryz.prog .any bops Q (GS g0 nb np sz) 7 #[true, true, true, true, true, true, false, true, true, false, true, true, false, true, true, true, true, true, false, false, false, false] ⟨#[.agg #[.int .i64 nb, .int .i64 np, .int .i64 sz], .pointer (some ⟨g0, 0, none⟩), .pointer none, .agg #[.int .i64 nb, .int .i64 np, .int .i64 sz], .pointer (some ⟨g0, 0, none⟩), .int .i64 nb, .pointer (some ⟨g0, 1, none⟩), .int .i64 np, .int .i64 N, undef, .pointer (some ⟨g0, 0, none⟩), .int .i64 nb, undef, .pointer (some ⟨g0, 0, none⟩), .int .i64 nb, undef, .pointer (some ⟨g0, 0, none⟩), .int .i64 nb, .slice (some ⟨x3, 0, none⟩) nb nb, .pointer (some ⟨g0, 0, none⟩), .int .i64 nb, undef, undef, undef], []⟩ W := by
  unfold bops
  refine wpAnyH_ready (rs := [6, 9, 12, 18]) (by kernel_rfl) (by simp) ?_
  refine AllReadyH.cons rfl (fun K hK => ?_) (AllReadyH.cons rfl (fun K hK => ?_) (AllReadyH.cons rfl (fun K hK => ?_) (AllReadyH.cons rfl (fun K hK => ?_) AllReadyH.nil)))
  · go_simp
    refine hK.out _ _ (hS.alloc _) (fun _ => ?_)
    try simp only [List.setIfInBounds_toArray, List.set]
    exact bl10010 hmI hmB hQ hN (W.alloc (.cells csP 40)) (hS.alloc _) (hb.alloc hb.size _) W.heap.size (Blk.new W _ _) hS.lt x3 (h3.alloc _) l3 (Nat.ne_of_gt h3.lt)
  · go_simp
    refine hK.out _ _ (hS.alloc _) (fun _ => ?_)
    try simp only [List.setIfInBounds_toArray, List.set]
    exact bl01010 hmI hmB hmP hQ hN (W.alloc (.cells csI 3)) (hS.alloc _) (hb.alloc hb.size _) W.heap.size (Blk.new W _ _) hS.lt x3 (h3.alloc _) l3 (Nat.ne_of_gt h3.lt)
  · go_simp
    refine hK.out _ _ (hS.alloc _) (fun _ => ?_)
    try simp only [List.setIfInBounds_toArray, List.set]
    exact bl00110 hmI hmP hQ hN (W.alloc (.cells csB 4)) (hS.alloc _) (hb.alloc hb.size _) W.heap.size (Blk.new W _ _) hS.lt x3 (h3.alloc _) l3 (Nat.ne_of_gt h3.lt)
  · go_simp
    refine hK.out _ _ (hS.alloc _) (fun _ => ?_)
    try simp only [List.setIfInBounds_toArray, List.set]
    exact bl00011 hmI hmB hmP hQ hN (W.alloc (.cells csI 3)) (hS.alloc _) (hb.alloc hb.size _) x3 (h3.alloc _) l3 W.heap.size (Blk.new W _ _) hS.lt (Nat.ne_of_lt h3.lt)

set_option maxRecDepth 100000 in
set_option maxHeartbeats 1000000 in
theorem bl00001 (W : World) (hS : GS g0 nb np sz W) (hb : Below w.heap.size w W) (x4 : Nat) (h4 : Blk W x4 3 csI) (l4 : g0 < x4) :
    wpAnyH Tryz.prog .any bops Q (GS g0 nb np sz) 7 #[true, true, true, true, true, true, false, true, true, false, true, true, false, true, true, false, true, true, true, false, false, false] ⟨#[.agg #[.int .i64 nb, .int .i64 np, .int .i64 sz], .pointer (some ⟨g0, 0, none⟩), .pointer none, .agg #[.int .i64 nb, .int .i64 np, .int .i64 sz], .pointer (some ⟨g0, 0, none⟩), .int .i64 nb, .pointer (some ⟨g0, 1, none⟩), .int .i64 np, .int .i64 N, undef, .pointer (some ⟨g0, 0, none⟩), .int .i64 nb, undef, .pointer (some ⟨g0, 0, none⟩), .int .i64 nb, undef, .pointer (some ⟨g0, 0, none⟩), .int .i64 nb, undef, .pointer (some ⟨g0, 0, none⟩), .int .i64 nb, .slice (some ⟨x4, 0, none⟩) nb nb, undef, undef], []⟩ W := by
  unfold bops
  refine wpAnyH_ready (rs := [6, 9, 12, 15]) (by kernel_rfl) (by simp) ?_
  refine AllReadyH.cons rfl (fun K hK => ?_) (AllReadyH.cons rfl (fun K hK => ?_) (AllReadyH.cons rfl (fun K hK => ?_) (AllReadyH.cons rfl (fun K hK => ?_) AllReadyH.nil)))
  · go_simp
    refine hK.out _ _ (hS.alloc _) (fun _ => ?_)
    try simp only [List.setIfInBounds_toArray, List.set]
    exact bl10001 hmI hmB hQ hN (W.alloc (.cells csP 40)) (hS.alloc _) (hb.alloc hb.size _) W.heap.size (Blk.new W _ _) hS.lt x4 (h4.alloc _) l4 (Nat.ne_of_gt h4.lt)
  · go_simp
    refine hK.out _ _ (hS.alloc _) (fun _ => ?_)
    try simp only [List.setIfInBounds_toArray, List.set]
    exact bl01001 hmB hmP hQ hN (W.alloc (.cells csI 3)) (hS.alloc _) (hb.alloc hb.size _) W.heap.size (Blk.new W _ _) hS.lt x4 (h4.alloc _) l4 (Nat.ne_of_gt h4.lt)
  · go_simp
    refine hK.out _ _ (hS.alloc _) (fun _ => ?_)
    try simp only [List.setIfInBounds_toArray, List.set]
    exact bl00101 hmI hmB hmP hQ hN (W.alloc (.cells csB 4)) (hS.alloc _) (hb.alloc hb.size _) W.heap.size (Blk.new W _ _) hS.lt x4 (h4.alloc _) l4 (Nat.ne_of_gt h4.lt)
  · go_simp
    refine hK.out _ _ (hS.alloc _) (fun _ => ?_)
    try simp only [List.setIfInBounds_toArray, List.set]
    exact bl00011 hmI hmB hmP hQ hN (W.alloc (.cells csB 4)) (hS.alloc _) (hb.alloc hb.size _) W.heap.size (Blk.new W _ _) hS.lt x4 (h4.alloc _) l4 (Nat.ne_of_gt h4.lt)

set_option maxRecDepth 100000 in
set_option maxHeartbeats 1000000 in
theorem bl00000 (W : World) (hS : GS g0 nb np sz W) (hb : Below w.heap.size w W) :
    wpAnyH Tryz.prog .any bops Q (GS g0 nb np sz) 8 #[true, true, true, true, true, true, false, true, true, false, true, true, false, true, true, false, true, true, false, false, false, false] ⟨#[.agg #[.int .i64 nb, .int .i64 np, .int .i64 sz], .pointer (some ⟨g0, 0, none⟩), .pointer none, .agg #[.int .i64 nb, .int .i64 np, .int .i64 sz], .pointer (some ⟨g0, 0, none⟩), .int .i64 nb, .pointer (some ⟨g0, 1, none⟩), .int .i64 np, .int .i64 N, undef, .pointer (some ⟨g0, 0, none⟩), .int .i64 nb, undef, .pointer (some ⟨g0, 0, none⟩), .int .i64 nb, undef, .pointer (some ⟨g0, 0, none⟩), .int .i64 nb, undef, .pointer (some ⟨g0, 0, none⟩), .int .i64 nb, undef, undef, undef], []⟩ W := by
  unfold bops
  refine wpAnyH_ready (rs := [6, 9, 12, 15, 18]) (by kernel_rfl) (by simp) ?_
  refine AllReadyH.cons rfl (fun K hK => ?_) (AllReadyH.cons rfl (fun K hK => ?_) (AllReadyH.cons rfl (fun K hK => ?_) (AllReadyH.cons rfl (fun K hK => ?_) (AllReadyH.cons rfl (fun K hK => ?_) AllReadyH.nil))))
  · go_simp
    refine hK.out _ _ (hS.alloc _) (fun _ => ?_)
    try simp only [List.setIfInBounds_toArray, List.set]
    exact bl10000 hmI hmB hQ hN (W.alloc (.cells csP 40)) (hS.alloc _) (hb.alloc hb.size _) W.heap.size (Blk.new W _ _) hS.lt
  · go_simp
    refine hK.out _ _ (hS.alloc _) (fun _ => ?_)
    try simp only [List.setIfInBounds_toArray, List.set]
    exact bl01000 hmI hmB hmP hQ hN (W.alloc (.cells csI 3)) (hS.alloc _) (hb.alloc hb.size _) W.heap.size (Blk.new W _ _) hS.lt
  · go_simp
    refine hK.out _ _ (hS.alloc _) (fun _ => ?_)
    try simp only [List.setIfInBounds_toArray, List.set]
    exact bl00100 hmI hmB hmP hQ hN (W.alloc (.cells csB 4)) (hS.alloc _) (hb.alloc hb.size _) W.heap.size (Blk.new W _ _) hS.lt
  · go_simp
    refine hK.out _ _ (hS.alloc _) (fun _ => ?_)
    try simp only [List.setIfInBounds_toArray, List.set]
    exact bl00010 hmI hmB hmP hQ hN (W.alloc (.cells csB 4)) (hS.alloc _) (hb.alloc hb.size _) W.heap.size (Blk.new W _ _) hS.lt
  · go_simp
    refine hK.out _ _ (hS.alloc _) (fun _ => ?_)
    try simp only [List.setIfInBounds_toArray, List.set]
    exact bl00001 hmI hmB hmP hQ hN (W.alloc (.cells csI 3)) (hS.alloc _) (hb.alloc hb.size _) W.heap.size (Blk.new W _ _) hS.lt

end
end Go.Proofs.YtjjggmopkfkpaaaGreat
