/-
  The translation made, without pages (made by gen_fttr.py). Nothing of one statement alone stands here.
-/
import Derived.Test.YtbfifppdcmimaaaGreatFtA
import Derived.Test.YtbfifppdcmimaaaGreatFtMap
import Derived.Deep.RegionHeld3
import Derived.Deep.CutBlock
import Derived.Deep.CutRange
import Derived.Deep.DeepCutAuto
namespace Go.Proofs.YtbfifppdcmimaaaGreat
open Go.RowKit Crcm Go.ChangeShapes

/-- the operations of the literal -/
def tops : Array Oper := #[{ dst := some 10, op := Op.move (Operand.tmp 0), type := 34, pos := "ftl.go:69", after := #[], guard := none }, { dst := some 11, op := Op.move (Operand.tmp 1), type := 3, pos := "ftl.go:69", after := #[], guard := none }, { dst := some 12, op := Op.move (Operand.tmp 2), type := 3, pos := "ftl.go:69", after := #[], guard := none }, { dst := some 13, op := Op.load 38 (Operand.tmp 7), type := 38, pos := "ftl.go:69", after := #[], guard := none }, { dst := some 14, op := Op.move (Operand.tmp 2), type := 3, pos := "ftl.go:69", after := #[], guard := none }, { dst := some 15, op := Op.move (Operand.tmp 1), type := 3, pos := "ftl.go:69", after := #[], guard := none }, { dst := some 16, op := Op.call { callee := Callee.value (Operand.func 25), args := #[Operand.tmp 13, Operand.tmp 14, Operand.tmp 15], argTypes := #[38, 3, 3] }, type := 3, pos := "ftl.go:73", after := #[{ on := 3, ground := Ground.data }, { on := 4, ground := Ground.data }, { on := 5, ground := Ground.data }], guard := none }, { dst := some 17, op := Op.fieldAddr 38 (Operand.tmp 7) 1, type := 0, pos := "ftl.go:69", after := #[], guard := none }, { dst := some 18, op := Op.load 3 (Operand.tmp 17), type := 3, pos := "ftl.go:69", after := #[{ on := 7, ground := Ground.data }], guard := none }, { dst := some 19, op := Op.binOp BinOp.mul 3 (Operand.tmp 16) (Operand.tmp 18) 3, type := 3, pos := "ftl.go:69", after := #[{ on := 6, ground := Ground.data }, { on := 8, ground := Ground.data }], guard := none }, { dst := some 20, op := Op.binOp BinOp.sub 3 (Operand.tmp 19) (Operand.const (Value.int IntKind.i64 2)) 3, type := 3, pos := "ftl.go:69", after := #[{ on := 9, ground := Ground.data }], guard := none }, { dst := some 21, op := Op.makeMap 51 none, type := 51, pos := "ftl.go:69", after := #[], guard := none }, { dst := some 22, op := Op.makeMap 51 none, type := 51, pos := "ftl.go:69", after := #[], guard := none }, { dst := some 23, op := Op.makeMap 52 none, type := 52, pos := "ftl.go:69", after := #[], guard := none }, { dst := some 24, op := Op.fieldAddr 38 (Operand.tmp 7) 0, type := 0, pos := "ftl.go:69", after := #[], guard := none }, { dst := some 25, op := Op.load 3 (Operand.tmp 24), type := 3, pos := "ftl.go:69", after := #[{ on := 14, ground := Ground.data }], guard := none }, { dst := some 26, op := Op.makeSlice 54 (Operand.tmp 25) (Operand.tmp 25), type := 54, pos := "ftl.go:69", after := #[{ on := 15, ground := Ground.data }, { on := 15, ground := Ground.data }], guard := none }, { dst := some 27, op := Op.fieldAddr 38 (Operand.tmp 7) 0, type := 0, pos := "ftl.go:69", after := #[], guard := none }, { dst := some 28, op := Op.load 3 (Operand.tmp 27), type := 3, pos := "ftl.go:69", after := #[{ on := 17, ground := Ground.data }], guard := none }, { dst := some 29, op := Op.makeSlice 55 (Operand.tmp 28) (Operand.tmp 28), type := 55, pos := "ftl.go:69", after := #[{ on := 18, ground := Ground.data }, { on := 18, ground := Ground.data }], guard := none }, { dst := some 30, op := Op.build 58 #[(0, Operand.tmp 10), (2, Operand.tmp 11), (3, Operand.tmp 12), (4, Operand.tmp 20), (8, Operand.tmp 21), (9, Operand.tmp 22), (10, Operand.tmp 23), (13, Operand.tmp 26), (14, Operand.tmp 29)], type := 58, pos := "ftl.go:69", after := #[{ on := 0, ground := Ground.data }, { on := 1, ground := Ground.data }, { on := 2, ground := Ground.data }, { on := 10, ground := Ground.data }, { on := 11, ground := Ground.data }, { on := 12, ground := Ground.data }, { on := 13, ground := Ground.data }, { on := 16, ground := Ground.data }, { on := 19, ground := Ground.data }], guard := none }, { dst := some 31, op := Op.box 58 (Operand.tmp 30), type := 24, pos := "ftl.go:69", after := #[{ on := 20, ground := Ground.data }], guard := none }, { dst := some 6, op := Op.assign (Operand.tmp 31), type := 24, pos := "ftl.go:69", after := #[{ on := 21, ground := Ground.data }, { on := 6, ground := Ground.chain }, { on := 0, ground := Ground.phase }, { on := 1, ground := Ground.phase }, { on := 2, ground := Ground.phase }, { on := 3, ground := Ground.phase }, { on := 4, ground := Ground.phase }, { on := 5, ground := Ground.phase }, { on := 6, ground := Ground.phase }, { on := 7, ground := Ground.phase }, { on := 8, ground := Ground.phase }, { on := 9, ground := Ground.phase }, { on := 10, ground := Ground.phase }, { on := 11, ground := Ground.phase }, { on := 12, ground := Ground.phase }, { on := 13, ground := Ground.phase }, { on := 14, ground := Ground.phase }, { on := 15, ground := Ground.phase }, { on := 16, ground := Ground.phase }, { on := 17, ground := Ground.phase }, { on := 18, ground := Ground.phase }, { on := 19, ground := Ground.phase }, { on := 20, ground := Ground.phase }, { on := 21, ground := Ground.phase }], guard := none }]
/-- what the loads read -/
def GT (g0 nb np sz : Nat) (w : World) : Prop := w.cell? ⟨g0, 0, none⟩ = some (.int .i64 nb) ∧ w.cell? ⟨g0, 1, none⟩ = some (.int .i64 np) ∧ w.cell? ⟨g0, 2, none⟩ = some (.int .i64 sz)
theorem GT.below {g0 nb np sz : Nat} {w w' : World} (h : GT g0 nb np sz w) (hb : Below w.heap.size w w') : GT g0 nb np sz w' := ⟨(hb.cell (block_lt_of_cell h.1)).trans h.1, (hb.cell (block_lt_of_cell h.2.1)).trans h.2.1, (hb.cell (block_lt_of_cell h.2.2)).trans h.2.2⟩
theorem ob_keep {W W1 : World} {x : Nat} {ob : Obj} (h : W.heap[x]? = some ob) (hb : Below W.heap.size W W1) : W1.heap[x]? = some ob := (hb.block x (Array.getElem?_eq_some_iff.1 h).1).trans h
theorem ob_lt {W : World} {x : Nat} {ob : Obj} (h : W.heap[x]? = some ob) : x < W.heap.size := (Array.getElem?_eq_some_iff.1 h).1
theorem al_below (W : World) (ob : Obj) : Below W.heap.size W (W.alloc ob) := (Below.refl _ _).alloc (Nat.le_refl _) _

section
variable {w : World} {g0 cb nb np sz : Nat} {res bad D P Cp : Int} {csB csU : Array Value} {Q : Exit → Act → World → Prop}
  (hD : ∀ W, Calls Tryz.prog 25 #[.agg #[.int .i64 nb, .int .i64 np, .int .i64 sz], .int .i64 bad, .int .i64 res] W fun e w' => e = .returned (.int .i64 D) ∧ Below W.heap.size W w')
  (hP : IntKind.i64.wrap (D * (np : Int)) = P) (hC : IntKind.i64.wrap (P - 2) = Cp)
  (hM1 : ∀ (t : TypeId) W, Sem.run Tryz.prog (Instr.makeMap t none) W = Result.ok (.map (some W.heap.size)) (W.alloc (.map #[] 0)))
  (hB : ∀ W, Sem.run Tryz.prog (Instr.makeSlice 54 (.int .i64 nb) (.int .i64 nb)) W = Result.ok (.slice (some ⟨W.heap.size, 0, none⟩) nb nb) (W.alloc (.cells csB 4)))
  (hU : ∀ W, Sem.run Tryz.prog (Instr.makeSlice 55 (.int .i64 nb) (.int .i64 nb)) W = Result.ok (.slice (some ⟨W.heap.size, 0, none⟩) nb nb) (W.alloc (.cells csU 87)))
  (hQ : ∀ (W : World) (x1 x2 x3 x4 x5 x6 : Nat), Below w.heap.size w W → W.heap[x1]? = some (.map #[] 0) → W.heap[x2]? = some (.map #[] 0) → W.heap[x3]? = some (.map #[] 0) → W.heap[x4]? = some (.cells csB 4) → W.heap[x5]? = some (.cells csU 87) → W.heap[x6]? = some (.cells #[.pointer (some ⟨cb, 0, none⟩), .pointer none, .int .i64 res, .int .i64 bad, .int .i64 Cp, .bool false, .bool false, .slice none 0 0, .map (some x1), .map (some x2), .map (some x3), .int .u64 0, .int .u64 0, .slice (some ⟨x4, 0, none⟩) nb nb, .slice (some ⟨x5, 0, none⟩) nb nb, .slice none 0 0, .bool false, .int .i64 0] 58) → w.heap.size ≤ x1 → w.heap.size ≤ x2 → w.heap.size ≤ x3 → w.heap.size ≤ x4 → w.heap.size ≤ x5 → x1 ≠ x2 → x1 ≠ x3 → x1 ≠ x4 → x1 ≠ x5 → x2 ≠ x3 → x2 ≠ x4 → x2 ≠ x5 → x3 ≠ x4 → x3 ≠ x5 → x4 ≠ x5 → x1 < x6 → x2 < x6 → x3 < x6 → x4 < x6 → x5 < x6 → Q .normal ⟨#[.pointer (some ⟨cb, 0, none⟩), .int .i64 res, .int .i64 bad, undef, undef, undef, .pointer (some ⟨x6, 0, none⟩), .pointer (some ⟨g0, 0, none⟩), .pointer (some ⟨cb, 0, none⟩), .agg #[.int .i64 nb, .int .i64 np, .int .i64 sz], .pointer (some ⟨cb, 0, none⟩), .int .i64 res, .int .i64 bad, .agg #[.int .i64 nb, .int .i64 np, .int .i64 sz], .int .i64 bad, .int .i64 res, .int .i64 D, .pointer (some ⟨g0, 1, none⟩), .int .i64 np, .int .i64 P, .int .i64 Cp, .map (some x1), .map (some x2), .map (some x3), .pointer (some ⟨g0, 0, none⟩), .int .i64 nb, .slice (some ⟨x4, 0, none⟩) nb nb, .pointer (some ⟨g0, 0, none⟩), .int .i64 nb, .slice (some ⟨x5, 0, none⟩) nb nb, .agg #[.pointer (some ⟨cb, 0, none⟩), .pointer none, .int .i64 res, .int .i64 bad, .int .i64 Cp, .bool false, .bool false, .slice none 0 0, .map (some x1), .map (some x2), .map (some x3), .int .u64 0, .int .u64 0, .slice (some ⟨x4, 0, none⟩) nb nb, .slice (some ⟨x5, 0, none⟩) nb nb, .slice none 0 0, .bool false, .int .i64 0], .pointer (some ⟨x6, 0, none⟩)], []⟩ W)
  (hN : ∀ c t (a : Act) v w, Q (.panic c) (a.put (some t) v) w → Q (.panic c) a w)
include hD hP hC hM1 hB hU hQ hN

omit hD hP hC hM1 hB hU in
set_option maxRecDepth 100000 in
set_option maxHeartbeats 1000000 in
theorem tr111111 (W : World) (hS : GT g0 nb np sz W) (hb : Below w.heap.size w W) (x1 : Nat) (h1 : W.heap[x1]? = some (.map #[] 0)) (l1 : w.heap.size ≤ x1) (x2 : Nat) (h2 : W.heap[x2]? = some (.map #[] 0)) (l2 : w.heap.size ≤ x2) (x3 : Nat) (h3 : W.heap[x3]? = some (.map #[] 0)) (l3 : w.heap.size ≤ x3) (x4 : Nat) (h4 : W.heap[x4]? = some (.cells csB 4)) (l4 : w.heap.size ≤ x4) (x5 : Nat) (h5 : W.heap[x5]? = some (.cells csU 87)) (l5 : w.heap.size ≤ x5) (n12 : x1 ≠ x2) (n13 : x1 ≠ x3) (n14 : x1 ≠ x4) (n15 : x1 ≠ x5) (n23 : x2 ≠ x3) (n24 : x2 ≠ x4) (n25 : x2 ≠ x5) (n34 : x3 ≠ x4) (n35 : x3 ≠ x5) (n45 : x4 ≠ x5) :
    wpAnyH Tryz.prog .any tops Q (GT g0 nb np sz) 3 #[true, true, true, true, true, true, true, true, true, true, true, true, true, true, true, true, true, true, true, true, false, false, false] ⟨#[.pointer (some ⟨cb, 0, none⟩), .int .i64 res, .int .i64 bad, undef, undef, undef, .pointer none, .pointer (some ⟨g0, 0, none⟩), .pointer (some ⟨cb, 0, none⟩), .agg #[.int .i64 nb, .int .i64 np, .int .i64 sz], .pointer (some ⟨cb, 0, none⟩), .int .i64 res, .int .i64 bad, .agg #[.int .i64 nb, .int .i64 np, .int .i64 sz], .int .i64 bad, .int .i64 res, .int .i64 D, .pointer (some ⟨g0, 1, none⟩), .int .i64 np, .int .i64 P, .int .i64 Cp, .map (some x1), .map (some x2), .map (some x3), .pointer (some ⟨g0, 0, none⟩), .int .i64 nb, .slice (some ⟨x4, 0, none⟩) nb nb, .pointer (some ⟨g0, 0, none⟩), .int .i64 nb, .slice (some ⟨x5, 0, none⟩) nb nb, undef, undef], []⟩ W := by
  unfold tops
  refine wpAnyH_take (i := 20) (v := .agg #[.pointer (some ⟨cb, 0, none⟩), .pointer none, .int .i64 res, .int .i64 bad, .int .i64 Cp, .bool false, .bool false, .slice none 0 0, .map (some x1), .map (some x2), .map (some x3), .int .u64 0, .int .u64 0, .slice (some ⟨x4, 0, none⟩) nb nb, .slice (some ⟨x5, 0, none⟩) nb nb, .slice none 0 0, .bool false, .int .i64 0]) rfl (by kernel_rfl) (by kernel_rfl) (by kernel_rfl) (fun c a w h => hN c _ a _ w h) (Or.inl ⟨by kernel_rfl, ?_⟩) hS ?_
  · intro w' hSw
    go_simp
  try simp only [List.setIfInBounds_toArray, List.set]
  refine wpAnyH_ready (rs := [21]) (by kernel_rfl) (by simp) ?_
  refine AllReadyH.cons rfl (fun K hK => ?_) AllReadyH.nil
  go_simp
  refine hK.out _ _ (hS.below (al_below W _)) (fun _ => ?_)
  try simp only [List.setIfInBounds_toArray, List.set]
  refine wpAnyH_ready (rs := [22]) (by kernel_rfl) (by simp) ?_
  refine AllReadyH.cons rfl (fun K hK => ?_) AllReadyH.nil
  go_simp
  refine hK.out _ _ (hS.below (al_below W _)) (fun _ => ?_)
  try simp only [List.setIfInBounds_toArray, List.set]
  refine wpAnyH_done (by kernel_rfl) ?_ _
  exact hQ _ x1 x2 x3 x4 x5 W.heap.size (hb.trans ((al_below W _).mono hb.size)) (ob_keep h1 (al_below W _)) (ob_keep h2 (al_below W _)) (ob_keep h3 (al_below W _)) (ob_keep h4 (al_below W _)) (ob_keep h5 (al_below W _)) (heap_alloc_new W _) l1 l2 l3 l4 l5 n12 n13 n14 n15 n23 n24 n25 n34 n35 n45 (ob_lt h1) (ob_lt h2) (ob_lt h3) (ob_lt h4) (ob_lt h5)

omit hD hP hC hM1 hB in
set_option maxRecDepth 100000 in
set_option maxHeartbeats 1000000 in
theorem tr111110 (W : World) (hS : GT g0 nb np sz W) (hb : Below w.heap.size w W) (x1 : Nat) (h1 : W.heap[x1]? = some (.map #[] 0)) (l1 : w.heap.size ≤ x1) (x2 : Nat) (h2 : W.heap[x2]? = some (.map #[] 0)) (l2 : w.heap.size ≤ x2) (x3 : Nat) (h3 : W.heap[x3]? = some (.map #[] 0)) (l3 : w.heap.size ≤ x3) (x4 : Nat) (h4 : W.heap[x4]? = some (.cells csB 4)) (l4 : w.heap.size ≤ x4) (n12 : x1 ≠ x2) (n13 : x1 ≠ x3) (n14 : x1 ≠ x4) (n23 : x2 ≠ x3) (n24 : x2 ≠ x4) (n34 : x3 ≠ x4) :
    wpAnyH Tryz.prog .any tops Q (GT g0 nb np sz) 4 #[true, true, true, true, true, true, true, true, true, true, true, true, true, true, true, true, true, true, true, false, false, false, false] ⟨#[.pointer (some ⟨cb, 0, none⟩), .int .i64 res, .int .i64 bad, undef, undef, undef, .pointer none, .pointer (some ⟨g0, 0, none⟩), .pointer (some ⟨cb, 0, none⟩), .agg #[.int .i64 nb, .int .i64 np, .int .i64 sz], .pointer (some ⟨cb, 0, none⟩), .int .i64 res, .int .i64 bad, .agg #[.int .i64 nb, .int .i64 np, .int .i64 sz], .int .i64 bad, .int .i64 res, .int .i64 D, .pointer (some ⟨g0, 1, none⟩), .int .i64 np, .int .i64 P, .int .i64 Cp, .map (some x1), .map (some x2), .map (some x3), .pointer (some ⟨g0, 0, none⟩), .int .i64 nb, .slice (some ⟨x4, 0, none⟩) nb nb, .pointer (some ⟨g0, 0, none⟩), .int .i64 nb, undef, undef, undef], []⟩ W := by
  unfold tops
  refine wpAnyH_ready (rs := [19]) (by kernel_rfl) (by simp) ?_
  refine AllReadyH.cons rfl (fun K hK => ?_) AllReadyH.nil
  · go_simp
    refine hK.out _ _ (hS.below (al_below W _)) (fun _ => ?_)
    try simp only [List.setIfInBounds_toArray, List.set]
    exact tr111111  hQ hN (W.alloc (.cells csU 87)) (hS.below (al_below W _)) (hb.trans ((al_below W _).mono hb.size)) x1 (ob_keep h1 (al_below W _)) l1 x2 (ob_keep h2 (al_below W _)) l2 x3 (ob_keep h3 (al_below W _)) l3 x4 (ob_keep h4 (al_below W _)) l4 W.heap.size (heap_alloc_new W _) hb.size n12 n13 n14 (Nat.ne_of_lt (ob_lt h1)) n23 n24 (Nat.ne_of_lt (ob_lt h2)) n34 (Nat.ne_of_lt (ob_lt h3)) (Nat.ne_of_lt (ob_lt h4))

omit hD hP hC hM1 hU in
set_option maxRecDepth 100000 in
set_option maxHeartbeats 1000000 in
theorem tr111101 (W : World) (hS : GT g0 nb np sz W) (hb : Below w.heap.size w W) (x1 : Nat) (h1 : W.heap[x1]? = some (.map #[] 0)) (l1 : w.heap.size ≤ x1) (x2 : Nat) (h2 : W.heap[x2]? = some (.map #[] 0)) (l2 : w.heap.size ≤ x2) (x3 : Nat) (h3 : W.heap[x3]? = some (.map #[] 0)) (l3 : w.heap.size ≤ x3) (x5 : Nat) (h5 : W.heap[x5]? = some (.cells csU 87)) (l5 : w.heap.size ≤ x5) (n12 : x1 ≠ x2) (n13 : x1 ≠ x3) (n15 : x1 ≠ x5) (n23 : x2 ≠ x3) (n25 : x2 ≠ x5) (n35 : x3 ≠ x5) :
    wpAnyH Tryz.prog .any tops Q (GT g0 nb np sz) 4 #[true, true, true, true, true, true, true, true, true, true, true, true, true, true, true, true, false, true, true, true, false, false, false] ⟨#[.pointer (some ⟨cb, 0, none⟩), .int .i64 res, .int .i64 bad, undef, undef, undef, .pointer none, .pointer (some ⟨g0, 0, none⟩), .pointer (some ⟨cb, 0, none⟩), .agg #[.int .i64 nb, .int .i64 np, .int .i64 sz], .pointer (some ⟨cb, 0, none⟩), .int .i64 res, .int .i64 bad, .agg #[.int .i64 nb, .int .i64 np, .int .i64 sz], .int .i64 bad, .int .i64 res, .int .i64 D, .pointer (some ⟨g0, 1, none⟩), .int .i64 np, .int .i64 P, .int .i64 Cp, .map (some x1), .map (some x2), .map (some x3), .pointer (some ⟨g0, 0, none⟩), .int .i64 nb, undef, .pointer (some ⟨g0, 0, none⟩), .int .i64 nb, .slice (some ⟨x5, 0, none⟩) nb nb, undef, undef], []⟩ W := by
  unfold tops
  refine wpAnyH_ready (rs := [16]) (by kernel_rfl) (by simp) ?_
  refine AllReadyH.cons rfl (fun K hK => ?_) AllReadyH.nil
  · go_simp
    refine hK.out _ _ (hS.below (al_below W _)) (fun _ => ?_)
    try simp only [List.setIfInBounds_toArray, List.set]
    exact tr111111  hQ hN (W.alloc (.cells csB 4)) (hS.below (al_below W _)) (hb.trans ((al_below W _).mono hb.size)) x1 (ob_keep h1 (al_below W _)) l1 x2 (ob_keep h2 (al_below W _)) l2 x3 (ob_keep h3 (al_below W _)) l3 W.heap.size (heap_alloc_new W _) hb.size x5 (ob_keep h5 (al_below W _)) l5 n12 n13 (Nat.ne_of_lt (ob_lt h1)) n15 n23 (Nat.ne_of_lt (ob_lt h2)) n25 (Nat.ne_of_lt (ob_lt h3)) n35 (Nat.ne_of_gt (ob_lt h5))

omit hD hP hC hB hU in
set_option maxRecDepth 100000 in
set_option maxHeartbeats 1000000 in
theorem tr111011 (W : World) (hS : GT g0 nb np sz W) (hb : Below w.heap.size w W) (x1 : Nat) (h1 : W.heap[x1]? = some (.map #[] 0)) (l1 : w.heap.size ≤ x1) (x2 : Nat) (h2 : W.heap[x2]? = some (.map #[] 0)) (l2 : w.heap.size ≤ x2) (x4 : Nat) (h4 : W.heap[x4]? = some (.cells csB 4)) (l4 : w.heap.size ≤ x4) (x5 : Nat) (h5 : W.heap[x5]? = some (.cells csU 87)) (l5 : w.heap.size ≤ x5) (n12 : x1 ≠ x2) (n14 : x1 ≠ x4) (n15 : x1 ≠ x5) (n24 : x2 ≠ x4) (n25 : x2 ≠ x5) (n45 : x4 ≠ x5) :
    wpAnyH Tryz.prog .any tops Q (GT g0 nb np sz) 4 #[true, true, true, true, true, true, true, true, true, true, true, true, true, false, true, true, true, true, true, true, false, false, false] ⟨#[.pointer (some ⟨cb, 0, none⟩), .int .i64 res, .int .i64 bad, undef, undef, undef, .pointer none, .pointer (some ⟨g0, 0, none⟩), .pointer (some ⟨cb, 0, none⟩), .agg #[.int .i64 nb, .int .i64 np, .int .i64 sz], .pointer (some ⟨cb, 0, none⟩), .int .i64 res, .int .i64 bad, .agg #[.int .i64 nb, .int .i64 np, .int .i64 sz], .int .i64 bad, .int .i64 res, .int .i64 D, .pointer (some ⟨g0, 1, none⟩), .int .i64 np, .int .i64 P, .int .i64 Cp, .map (some x1), .map (some x2), undef, .pointer (some ⟨g0, 0, none⟩), .int .i64 nb, .slice (some ⟨x4, 0, none⟩) nb nb, .pointer (some ⟨g0, 0, none⟩), .int .i64 nb, .slice (some ⟨x5, 0, none⟩) nb nb, undef, undef], []⟩ W := by
  unfold tops
  refine wpAnyH_ready (rs := [13]) (by kernel_rfl) (by simp) ?_
  refine AllReadyH.cons rfl (fun K hK => ?_) AllReadyH.nil
  · go_simp
    refine hK.out _ _ (hS.below (al_below W _)) (fun _ => ?_)
    try simp only [List.setIfInBounds_toArray, List.set]
    exact tr111111  hQ hN (W.alloc (.map #[] 0)) (hS.below (al_below W _)) (hb.trans ((al_below W _).mono hb.size)) x1 (ob_keep h1 (al_below W _)) l1 x2 (ob_keep h2 (al_below W _)) l2 W.heap.size (heap_alloc_new W _) hb.size x4 (ob_keep h4 (al_below W _)) l4 x5 (ob_keep h5 (al_below W _)) l5 n12 (Nat.ne_of_lt (ob_lt h1)) n14 n15 (Nat.ne_of_lt (ob_lt h2)) n24 n25 (Nat.ne_of_gt (ob_lt h4)) (Nat.ne_of_gt (ob_lt h5)) n45

omit hD hP hC hB hU in
set_option maxRecDepth 100000 in
set_option maxHeartbeats 1000000 in
theorem tr110111 (W : World) (hS : GT g0 nb np sz W) (hb : Below w.heap.size w W) (x1 : Nat) (h1 : W.heap[x1]? = some (.map #[] 0)) (l1 : w.heap.size ≤ x1) (x3 : Nat) (h3 : W.heap[x3]? = some (.map #[] 0)) (l3 : w.heap.size ≤ x3) (x4 : Nat) (h4 : W.heap[x4]? = some (.cells csB 4)) (l4 : w.heap.size ≤ x4) (x5 : Nat) (h5 : W.heap[x5]? = some (.cells csU 87)) (l5 : w.heap.size ≤ x5) (n13 : x1 ≠ x3) (n14 : x1 ≠ x4) (n15 : x1 ≠ x5) (n34 : x3 ≠ x4) (n35 : x3 ≠ x5) (n45 : x4 ≠ x5) :
    wpAnyH Tryz.prog .any tops Q (GT g0 nb np sz) 4 #[true, true, true, true, true, true, true, true, true, true, true, true, false, true, true, true, true, true, true, true, false, false, false] ⟨#[.pointer (some ⟨cb, 0, none⟩), .int .i64 res, .int .i64 bad, undef, undef, undef, .pointer none, .pointer (some ⟨g0, 0, none⟩), .pointer (some ⟨cb, 0, none⟩), .agg #[.int .i64 nb, .int .i64 np, .int .i64 sz], .pointer (some ⟨cb, 0, none⟩), .int .i64 res, .int .i64 bad, .agg #[.int .i64 nb, .int .i64 np, .int .i64 sz], .int .i64 bad, .int .i64 res, .int .i64 D, .pointer (some ⟨g0, 1, none⟩), .int .i64 np, .int .i64 P, .int .i64 Cp, .map (some x1), undef, .map (some x3), .pointer (some ⟨g0, 0, none⟩), .int .i64 nb, .slice (some ⟨x4, 0, none⟩) nb nb, .pointer (some ⟨g0, 0, none⟩), .int .i64 nb, .slice (some ⟨x5, 0, none⟩) nb nb, undef, undef], []⟩ W := by
  unfold tops
  refine wpAnyH_ready (rs := [12]) (by kernel_rfl) (by simp) ?_
  refine AllReadyH.cons rfl (fun K hK => ?_) AllReadyH.nil
  · go_simp
    refine hK.out _ _ (hS.below (al_below W _)) (fun _ => ?_)
    try simp only [List.setIfInBounds_toArray, List.set]
    exact tr111111  hQ hN (W.alloc (.map #[] 0)) (hS.below (al_below W _)) (hb.trans ((al_below W _).mono hb.size)) x1 (ob_keep h1 (al_below W _)) l1 W.heap.size (heap_alloc_new W _) hb.size x3 (ob_keep h3 (al_below W _)) l3 x4 (ob_keep h4 (al_below W _)) l4 x5 (ob_keep h5 (al_below W _)) l5 (Nat.ne_of_lt (ob_lt h1)) n13 n14 n15 (Nat.ne_of_gt (ob_lt h3)) (Nat.ne_of_gt (ob_lt h4)) (Nat.ne_of_gt (ob_lt h5)) n34 n35 n45

omit hD hP hC hB hU in
set_option maxRecDepth 100000 in
set_option maxHeartbeats 1000000 in
theorem tr101111 (W : World) (hS : GT g0 nb np sz W) (hb : Below w.heap.size w W) (x2 : Nat) (h2 : W.heap[x2]? = some (.map #[] 0)) (l2 : w.heap.size ≤ x2) (x3 : Nat) (h3 : W.heap[x3]? = some (.map #[] 0)) (l3 : w.heap.size ≤ x3) (x4 : Nat) (h4 : W.heap[x4]? = some (.cells csB 4)) (l4 : w.heap.size ≤ x4) (x5 : Nat) (h5 : W.heap[x5]? = some (.cells csU 87)) (l5 : w.heap.size ≤ x5) (n23 : x2 ≠ x3) (n24 : x2 ≠ x4) (n25 : x2 ≠ x5) (n34 : x3 ≠ x4) (n35 : x3 ≠ x5) (n45 : x4 ≠ x5) :
    wpAnyH Tryz.prog .any tops Q (GT g0 nb np sz) 4 #[true, true, true, true, true, true, true, true, true, true, true, false, true, true, true, true, true, true, true, true, false, false, false] ⟨#[.pointer (some ⟨cb, 0, none⟩), .int .i64 res, .int .i64 bad, undef, undef, undef, .pointer none, .pointer (some ⟨g0, 0, none⟩), .pointer (some ⟨cb, 0, none⟩), .agg #[.int .i64 nb, .int .i64 np, .int .i64 sz], .pointer (some ⟨cb, 0, none⟩), .int .i64 res, .int .i64 bad, .agg #[.int .i64 nb, .int .i64 np, .int .i64 sz], .int .i64 bad, .int .i64 res, .int .i64 D, .pointer (some ⟨g0, 1, none⟩), .int .i64 np, .int .i64 P, .int .i64 Cp, undef, .map (some x2), .map (some x3), .pointer (some ⟨g0, 0, none⟩), .int .i64 nb, .slice (some ⟨x4, 0, none⟩) nb nb, .pointer (some ⟨g0, 0, none⟩), .int .i64 nb, .slice (some ⟨x5, 0, none⟩) nb nb, undef, undef], []⟩ W := by
  unfold tops
  refine wpAnyH_ready (rs := [11]) (by kernel_rfl) (by simp) ?_
  refine AllReadyH.cons rfl (fun K hK => ?_) AllReadyH.nil
  · go_simp
    refine hK.out _ _ (hS.below (al_below W _)) (fun _ => ?_)
    try simp only [List.setIfInBounds_toArray, List.set]
    exact tr111111  hQ hN (W.alloc (.map #[] 0)) (hS.below (al_below W _)) (hb.trans ((al_below W _).mono hb.size)) W.heap.size (heap_alloc_new W _) hb.size x2 (ob_keep h2 (al_below W _)) l2 x3 (ob_keep h3 (al_below W _)) l3 x4 (ob_keep h4 (al_below W _)) l4 x5 (ob_keep h5 (al_below W _)) l5 (Nat.ne_of_gt (ob_lt h2)) (Nat.ne_of_gt (ob_lt h3)) (Nat.ne_of_gt (ob_lt h4)) (Nat.ne_of_gt (ob_lt h5)) n23 n24 n25 n34 n35 n45

omit hM1 hB hU in
set_option maxRecDepth 100000 in
set_option maxHeartbeats 1000000 in
theorem tr011111 (W : World) (hS : GT g0 nb np sz W) (hb : Below w.heap.size w W) (x1 : Nat) (h1 : W.heap[x1]? = some (.map #[] 0)) (l1 : w.heap.size ≤ x1) (x2 : Nat) (h2 : W.heap[x2]? = some (.map #[] 0)) (l2 : w.heap.size ≤ x2) (x3 : Nat) (h3 : W.heap[x3]? = some (.map #[] 0)) (l3 : w.heap.size ≤ x3) (x4 : Nat) (h4 : W.heap[x4]? = some (.cells csB 4)) (l4 : w.heap.size ≤ x4) (x5 : Nat) (h5 : W.heap[x5]? = some (.cells csU 87)) (l5 : w.heap.size ≤ x5) (n12 : x1 ≠ x2) (n13 : x1 ≠ x3) (n14 : x1 ≠ x4) (n15 : x1 ≠ x5) (n23 : x2 ≠ x3) (n24 : x2 ≠ x4) (n25 : x2 ≠ x5) (n34 : x3 ≠ x4) (n35 : x3 ≠ x5) (n45 : x4 ≠ x5) :
    wpAnyH Tryz.prog .any tops Q (GT g0 nb np sz) 6 #[true, true, true, true, true, true, false, true, true, false, false, true, true, true, true, true, true, true, true, true, false, false, false] ⟨#[.pointer (some ⟨cb, 0, none⟩), .int .i64 res, .int .i64 bad, undef, undef, undef, .pointer none, .pointer (some ⟨g0, 0, none⟩), .pointer (some ⟨cb, 0, none⟩), .agg #[.int .i64 nb, .int .i64 np, .int .i64 sz], .pointer (some ⟨cb, 0, none⟩), .int .i64 res, .int .i64 bad, .agg #[.int .i64 nb, .int .i64 np, .int .i64 sz], .int .i64 bad, .int .i64 res, undef, .pointer (some ⟨g0, 1, none⟩), .int .i64 np, undef, undef, .map (some x1), .map (some x2), .map (some x3), .pointer (some ⟨g0, 0, none⟩), .int .i64 nb, .slice (some ⟨x4, 0, none⟩) nb nb, .pointer (some ⟨g0, 0, none⟩), .int .i64 nb, .slice (some ⟨x5, 0, none⟩) nb nb, undef, undef], []⟩ W := by
  unfold tops
  refine wpAnyH_ready (rs := [6]) (by kernel_rfl) (by simp) ?_
  refine AllReadyH.cons rfl (fun K hK => ?_) AllReadyH.nil
  · go_simp
    refine (hD W).mono ?_
    rintro e W1 ⟨rfl, hW⟩
    refine hK.out _ _ (hS.below hW) (fun _ => ?_)
    try simp only [List.setIfInBounds_toArray, List.set]
    refine wpAnyH_take (i := 9) (v := .int .i64 P) rfl (by kernel_rfl) (by kernel_rfl) (by kernel_rfl) (fun c a w h => hN c _ a _ w h) (Or.inl ⟨by kernel_rfl, ?_⟩) (hS.below hW) ?_
    · intro w' hSw
      go_simp
    refine wpAnyH_take (i := 10) (v := .int .i64 Cp) rfl (by kernel_rfl) (by kernel_rfl) (by kernel_rfl) (fun c a w h => hN c _ a _ w h) (Or.inl ⟨by kernel_rfl, ?_⟩) (hS.below hW) ?_
    · intro w' hSw
      go_simp
    try simp only [List.setIfInBounds_toArray, List.set]
    exact tr111111  hQ hN W1 (hS.below hW) (hb.trans (hW.mono hb.size)) x1 (ob_keep h1 hW) l1 x2 (ob_keep h2 hW) l2 x3 (ob_keep h3 hW) l3 x4 (ob_keep h4 hW) l4 x5 (ob_keep h5 hW) l5 n12 n13 n14 n15 n23 n24 n25 n34 n35 n45

omit hD hP hC hM1 in
set_option maxRecDepth 100000 in
set_option maxHeartbeats 1000000 in
theorem tr111100 (W : World) (hS : GT g0 nb np sz W) (hb : Below w.heap.size w W) (x1 : Nat) (h1 : W.heap[x1]? = some (.map #[] 0)) (l1 : w.heap.size ≤ x1) (x2 : Nat) (h2 : W.heap[x2]? = some (.map #[] 0)) (l2 : w.heap.size ≤ x2) (x3 : Nat) (h3 : W.heap[x3]? = some (.map #[] 0)) (l3 : w.heap.size ≤ x3) (n12 : x1 ≠ x2) (n13 : x1 ≠ x3) (n23 : x2 ≠ x3) :
    wpAnyH Tryz.prog .any tops Q (GT g0 nb np sz) 5 #[true, true, true, true, true, true, true, true, true, true, true, true, true, true, true, true, false, true, true, false, false, false, false] ⟨#[.pointer (some ⟨cb, 0, none⟩), .int .i64 res, .int .i64 bad, undef, undef, undef, .pointer none, .pointer (some ⟨g0, 0, none⟩), .pointer (some ⟨cb, 0, none⟩), .agg #[.int .i64 nb, .int .i64 np, .int .i64 sz], .pointer (some ⟨cb, 0, none⟩), .int .i64 res, .int .i64 bad, .agg #[.int .i64 nb, .int .i64 np, .int .i64 sz], .int .i64 bad, .int .i64 res, .int .i64 D, .pointer (some ⟨g0, 1, none⟩), .int .i64 np, .int .i64 P, .int .i64 Cp, .map (some x1), .map (some x2), .map (some x3), .pointer (some ⟨g0, 0, none⟩), .int .i64 nb, undef, .pointer (some ⟨g0, 0, none⟩), .int .i64 nb, undef, undef, undef], []⟩ W := by
  unfold tops
  refine wpAnyH_ready (rs := [16, 19]) (by kernel_rfl) (by simp) ?_
  refine AllReadyH.cons rfl (fun K hK => ?_) (AllReadyH.cons rfl (fun K hK => ?_) AllReadyH.nil)
  · go_simp
    refine hK.out _ _ (hS.below (al_below W _)) (fun _ => ?_)
    try simp only [List.setIfInBounds_toArray, List.set]
    exact tr111110 hU hQ hN (W.alloc (.cells csB 4)) (hS.below (al_below W _)) (hb.trans ((al_below W _).mono hb.size)) x1 (ob_keep h1 (al_below W _)) l1 x2 (ob_keep h2 (al_below W _)) l2 x3 (ob_keep h3 (al_below W _)) l3 W.heap.size (heap_alloc_new W _) hb.size n12 n13 (Nat.ne_of_lt (ob_lt h1)) n23 (Nat.ne_of_lt (ob_lt h2)) (Nat.ne_of_lt (ob_lt h3))
  · go_simp
    refine hK.out _ _ (hS.below (al_below W _)) (fun _ => ?_)
    try simp only [List.setIfInBounds_toArray, List.set]
    exact tr111101 hB hQ hN (W.alloc (.cells csU 87)) (hS.below (al_below W _)) (hb.trans ((al_below W _).mono hb.size)) x1 (ob_keep h1 (al_below W _)) l1 x2 (ob_keep h2 (al_below W _)) l2 x3 (ob_keep h3 (al_below W _)) l3 W.heap.size (heap_alloc_new W _) hb.size n12 n13 (Nat.ne_of_lt (ob_lt h1)) n23 (Nat.ne_of_lt (ob_lt h2)) (Nat.ne_of_lt (ob_lt h3))

omit hD hP hC hB in
set_option maxRecDepth 100000 in
set_option maxHeartbeats 1000000 in
theorem tr111010 (W : World) (hS : GT g0 nb np sz W) (hb : Below w.heap.size w W) (x1 : Nat) (h1 : W.heap[x1]? = some (.map #[] 0)) (l1 : w.heap.size ≤ x1) (x2 : Nat) (h2 : W.heap[x2]? = some (.map #[] 0)) (l2 : w.heap.size ≤ x2) (x4 : Nat) (h4 : W.heap[x4]? = some (.cells csB 4)) (l4 : w.heap.size ≤ x4) (n12 : x1 ≠ x2) (n14 : x1 ≠ x4) (n24 : x2 ≠ x4) :
    wpAnyH Tryz.prog .any tops Q (GT g0 nb np sz) 5 #[true, true, true, true, true, true, true, true, true, true, true, true, true, false, true, true, true, true, true, false, false, false, false] ⟨#[.pointer (some ⟨cb, 0, none⟩), .int .i64 res, .int .i64 bad, undef, undef, undef, .pointer none, .pointer (some ⟨g0, 0, none⟩), .pointer (some ⟨cb, 0, none⟩), .agg #[.int .i64 nb, .int .i64 np, .int .i64 sz], .pointer (some ⟨cb, 0, none⟩), .int .i64 res, .int .i64 bad, .agg #[.int .i64 nb, .int .i64 np, .int .i64 sz], .int .i64 bad, .int .i64 res, .int .i64 D, .pointer (some ⟨g0, 1, none⟩), .int .i64 np, .int .i64 P, .int .i64 Cp, .map (some x1), .map (some x2), undef, .pointer (some ⟨g0, 0, none⟩), .int .i64 nb, .slice (some ⟨x4, 0, none⟩) nb nb, .pointer (some ⟨g0, 0, none⟩), .int .i64 nb, undef, undef, undef], []⟩ W := by
  unfold tops
  refine wpAnyH_ready (rs := [13, 19]) (by kernel_rfl) (by simp) ?_
  refine AllReadyH.cons rfl (fun K hK => ?_) (AllReadyH.cons rfl (fun K hK => ?_) AllReadyH.nil)
  · go_simp
    refine hK.out _ _ (hS.below (al_below W _)) (fun _ => ?_)
    try simp only [List.setIfInBounds_toArray, List.set]
    exact tr111110 hU hQ hN (W.alloc (.map #[] 0)) (hS.below (al_below W _)) (hb.trans ((al_below W _).mono hb.size)) x1 (ob_keep h1 (al_below W _)) l1 x2 (ob_keep h2 (al_below W _)) l2 W.heap.size (heap_alloc_new W _) hb.size x4 (ob_keep h4 (al_below W _)) l4 n12 (Nat.ne_of_lt (ob_lt h1)) n14 (Nat.ne_of_lt (ob_lt h2)) n24 (Nat.ne_of_gt (ob_lt h4))
  · go_simp
    refine hK.out _ _ (hS.below (al_below W _)) (fun _ => ?_)
    try simp only [List.setIfInBounds_toArray, List.set]
    exact tr111011 hM1 hQ hN (W.alloc (.cells csU 87)) (hS.below (al_below W _)) (hb.trans ((al_below W _).mono hb.size)) x1 (ob_keep h1 (al_below W _)) l1 x2 (ob_keep h2 (al_below W _)) l2 x4 (ob_keep h4 (al_below W _)) l4 W.heap.size (heap_alloc_new W _) hb.size n12 n14 (Nat.ne_of_lt (ob_lt h1)) n24 (Nat.ne_of_lt (ob_lt h2)) (Nat.ne_of_lt (ob_lt h4))

omit hD hP hC hU in
set_option maxRecDepth 100000 in
set_option maxHeartbeats 1000000 in
theorem tr111001 (W : World) (hS : GT g0 nb np sz W) (hb : Below w.heap.size w W) (x1 : Nat) (h1 : W.heap[x1]? = some (.map #[] 0)) (l1 : w.heap.size ≤ x1) (x2 : Nat) (h2 : W.heap[x2]? = some (.map #[] 0)) (l2 : w.heap.size ≤ x2) (x5 : Nat) (h5 : W.heap[x5]? = some (.cells csU 87)) (l5 : w.heap.size ≤ x5) (n12 : x1 ≠ x2) (n15 : x1 ≠ x5) (n25 : x2 ≠ x5) :
    wpAnyH Tryz.prog .any tops Q (GT g0 nb np sz) 5 #[true, true, true, true, true, true, true, true, true, true, true, true, true, false, true, true, false, true, true, true, false, false, false] ⟨#[.pointer (some ⟨cb, 0, none⟩), .int .i64 res, .int .i64 bad, undef, undef, undef, .pointer none, .pointer (some ⟨g0, 0, none⟩), .pointer (some ⟨cb, 0, none⟩), .agg #[.int .i64 nb, .int .i64 np, .int .i64 sz], .pointer (some ⟨cb, 0, none⟩), .int .i64 res, .int .i64 bad, .agg #[.int .i64 nb, .int .i64 np, .int .i64 sz], .int .i64 bad, .int .i64 res, .int .i64 D, .pointer (some ⟨g0, 1, none⟩), .int .i64 np, .int .i64 P, .int .i64 Cp, .map (some x1), .map (some x2), undef, .pointer (some ⟨g0, 0, none⟩), .int .i64 nb, undef, .pointer (some ⟨g0, 0, none⟩), .int .i64 nb, .slice (some ⟨x5, 0, none⟩) nb nb, undef, undef], []⟩ W := by
  unfold tops
  refine wpAnyH_ready (rs := [13, 16]) (by kernel_rfl) (by simp) ?_
  refine AllReadyH.cons rfl (fun K hK => ?_) (AllReadyH.cons rfl (fun K hK => ?_) AllReadyH.nil)
  · go_simp
    refine hK.out _ _ (hS.below (al_below W _)) (fun _ => ?_)
    try simp only [List.setIfInBounds_toArray, List.set]
    exact tr111101 hB hQ hN (W.alloc (.map #[] 0)) (hS.below (al_below W _)) (hb.trans ((al_below W _).mono hb.size)) x1 (ob_keep h1 (al_below W _)) l1 x2 (ob_keep h2 (al_below W _)) l2 W.heap.size (heap_alloc_new W _) hb.size x5 (ob_keep h5 (al_below W _)) l5 n12 (Nat.ne_of_lt (ob_lt h1)) n15 (Nat.ne_of_lt (ob_lt h2)) n25 (Nat.ne_of_gt (ob_lt h5))
  · go_simp
    refine hK.out _ _ (hS.below (al_below W _)) (fun _ => ?_)
    try simp only [List.setIfInBounds_toArray, List.set]
    exact tr111011 hM1 hQ hN (W.alloc (.cells csB 4)) (hS.below (al_below W _)) (hb.trans ((al_below W _).mono hb.size)) x1 (ob_keep h1 (al_below W _)) l1 x2 (ob_keep h2 (al_below W _)) l2 W.heap.size (heap_alloc_new W _) hb.size x5 (ob_keep h5 (al_below W _)) l5 n12 (Nat.ne_of_lt (ob_lt h1)) n15 (Nat.ne_of_lt (ob_lt h2)) n25 (Nat.ne_of_gt (ob_lt h5))

omit hD hP hC hB in
set_option maxRecDepth 100000 in
set_option maxHeartbeats 1000000 in
theorem tr110110 (W : World) (hS : GT g0 nb np sz W) (hb : Below w.heap.size w W) (x1 : Nat) (h1 : W.heap[x1]? = some (.map #[] 0)) (l1 : w.heap.size ≤ x1) (x3 : Nat) (h3 : W.heap[x3]? = some (.map #[] 0)) (l3 : w.heap.size ≤ x3) (x4 : Nat) (h4 : W.heap[x4]? = some (.cells csB 4)) (l4 : w.heap.size ≤ x4) (n13 : x1 ≠ x3) (n14 : x1 ≠ x4) (n34 : x3 ≠ x4) :
    wpAnyH Tryz.prog .any tops Q (GT g0 nb np sz) 5 #[true, true, true, true, true, true, true, true, true, true, true, true, false, true, true, true, true, true, true, false, false, false, false] ⟨#[.pointer (some ⟨cb, 0, none⟩), .int .i64 res, .int .i64 bad, undef, undef, undef, .pointer none, .pointer (some ⟨g0, 0, none⟩), .pointer (some ⟨cb, 0, none⟩), .agg #[.int .i64 nb, .int .i64 np, .int .i64 sz], .pointer (some ⟨cb, 0, none⟩), .int .i64 res, .int .i64 bad, .agg #[.int .i64 nb, .int .i64 np, .int .i64 sz], .int .i64 bad, .int .i64 res, .int .i64 D, .pointer (some ⟨g0, 1, none⟩), .int .i64 np, .int .i64 P, .int .i64 Cp, .map (some x1), undef, .map (some x3), .pointer (some ⟨g0, 0, none⟩), .int .i64 nb, .slice (some ⟨x4, 0, none⟩) nb nb, .pointer (some ⟨g0, 0, none⟩), .int .i64 nb, undef, undef, undef], []⟩ W := by
  unfold tops
  refine wpAnyH_ready (rs := [12, 19]) (by kernel_rfl) (by simp) ?_
  refine AllReadyH.cons rfl (fun K hK => ?_) (AllReadyH.cons rfl (fun K hK => ?_) AllReadyH.nil)
  · go_simp
    refine hK.out _ _ (hS.below (al_below W _)) (fun _ => ?_)
    try simp only [List.setIfInBounds_toArray, List.set]
    exact tr111110 hU hQ hN (W.alloc (.map #[] 0)) (hS.below (al_below W _)) (hb.trans ((al_below W _).mono hb.size)) x1 (ob_keep h1 (al_below W _)) l1 W.heap.size (heap_alloc_new W _) hb.size x3 (ob_keep h3 (al_below W _)) l3 x4 (ob_keep h4 (al_below W _)) l4 (Nat.ne_of_lt (ob_lt h1)) n13 n14 (Nat.ne_of_gt (ob_lt h3)) (Nat.ne_of_gt (ob_lt h4)) n34
  · go_simp
    refine hK.out _ _ (hS.below (al_below W _)) (fun _ => ?_)
    try simp only [List.setIfInBounds_toArray, List.set]
    exact tr110111 hM1 hQ hN (W.alloc (.cells csU 87)) (hS.below (al_below W _)) (hb.trans ((al_below W _).mono hb.size)) x1 (ob_keep h1 (al_below W _)) l1 x3 (ob_keep h3 (al_below W _)) l3 x4 (ob_keep h4 (al_below W _)) l4 W.heap.size (heap_alloc_new W _) hb.size n13 n14 (Nat.ne_of_lt (ob_lt h1)) n34 (Nat.ne_of_lt (ob_lt h3)) (Nat.ne_of_lt (ob_lt h4))

omit hD hP hC hU in
set_option maxRecDepth 100000 in
set_option maxHeartbeats 1000000 in
theorem tr110101 (W : World) (hS : GT g0 nb np sz W) (hb : Below w.heap.size w W) (x1 : Nat) (h1 : W.heap[x1]? = some (.map #[] 0)) (l1 : w.heap.size ≤ x1) (x3 : Nat) (h3 : W.heap[x3]? = some (.map #[] 0)) (l3 : w.heap.size ≤ x3) (x5 : Nat) (h5 : W.heap[x5]? = some (.cells csU 87)) (l5 : w.heap.size ≤ x5) (n13 : x1 ≠ x3) (n15 : x1 ≠ x5) (n35 : x3 ≠ x5) :
    wpAnyH Tryz.prog .any tops Q (GT g0 nb np sz) 5 #[true, true, true, true, true, true, true, true, true, true, true, true, false, true, true, true, false, true, true, true, false, false, false] ⟨#[.pointer (some ⟨cb, 0, none⟩), .int .i64 res, .int .i64 bad, undef, undef, undef, .pointer none, .pointer (some ⟨g0, 0, none⟩), .pointer (some ⟨cb, 0, none⟩), .agg #[.int .i64 nb, .int .i64 np, .int .i64 sz], .pointer (some ⟨cb, 0, none⟩), .int .i64 res, .int .i64 bad, .agg #[.int .i64 nb, .int .i64 np, .int .i64 sz], .int .i64 bad, .int .i64 res, .int .i64 D, .pointer (some ⟨g0, 1, none⟩), .int .i64 np, .int .i64 P, .int .i64 Cp, .map (some x1), undef, .map (some x3), .pointer (some ⟨g0, 0, none⟩), .int .i64 nb, undef, .pointer (some ⟨g0, 0, none⟩), .int .i64 nb, .slice (some ⟨x5, 0, none⟩) nb nb, undef, undef], []⟩ W := by
  unfold tops
  refine wpAnyH_ready (rs := [12, 16]) (by kernel_rfl) (by simp) ?_
  refine AllReadyH.cons rfl (fun K hK => ?_) (AllReadyH.cons rfl (fun K hK => ?_) AllReadyH.nil)
  · go_simp
    refine hK.out _ _ (hS.below (al_below W _)) (fun _ => ?_)
    try simp only [List.setIfInBounds_toArray, List.set]
    exact tr111101 hB hQ hN (W.alloc (.map #[] 0)) (hS.below (al_below W _)) (hb.trans ((al_below W _).mono hb.size)) x1 (ob_keep h1 (al_below W _)) l1 W.heap.size (heap_alloc_new W _) hb.size x3 (ob_keep h3 (al_below W _)) l3 x5 (ob_keep h5 (al_below W _)) l5 (Nat.ne_of_lt (ob_lt h1)) n13 n15 (Nat.ne_of_gt (ob_lt h3)) (Nat.ne_of_gt (ob_lt h5)) n35
  · go_simp
    refine hK.out _ _ (hS.below (al_below W _)) (fun _ => ?_)
    try simp only [List.setIfInBounds_toArray, List.set]
    exact tr110111 hM1 hQ hN (W.alloc (.cells csB 4)) (hS.below (al_below W _)) (hb.trans ((al_below W _).mono hb.size)) x1 (ob_keep h1 (al_below W _)) l1 x3 (ob_keep h3 (al_below W _)) l3 W.heap.size (heap_alloc_new W _) hb.size x5 (ob_keep h5 (al_below W _)) l5 n13 (Nat.ne_of_lt (ob_lt h1)) n15 (Nat.ne_of_lt (ob_lt h3)) n35 (Nat.ne_of_gt (ob_lt h5))

omit hD hP hC hB hU in
set_option maxRecDepth 100000 in
set_option maxHeartbeats 1000000 in
theorem tr110011 (W : World) (hS : GT g0 nb np sz W) (hb : Below w.heap.size w W) (x1 : Nat) (h1 : W.heap[x1]? = some (.map #[] 0)) (l1 : w.heap.size ≤ x1) (x4 : Nat) (h4 : W.heap[x4]? = some (.cells csB 4)) (l4 : w.heap.size ≤ x4) (x5 : Nat) (h5 : W.heap[x5]? = some (.cells csU 87)) (l5 : w.heap.size ≤ x5) (n14 : x1 ≠ x4) (n15 : x1 ≠ x5) (n45 : x4 ≠ x5) :
    wpAnyH Tryz.prog .any tops Q (GT g0 nb np sz) 5 #[true, true, true, true, true, true, true, true, true, true, true, true, false, false, true, true, true, true, true, true, false, false, false] ⟨#[.pointer (some ⟨cb, 0, none⟩), .int .i64 res, .int .i64 bad, undef, undef, undef, .pointer none, .pointer (some ⟨g0, 0, none⟩), .pointer (some ⟨cb, 0, none⟩), .agg #[.int .i64 nb, .int .i64 np, .int .i64 sz], .pointer (some ⟨cb, 0, none⟩), .int .i64 res, .int .i64 bad, .agg #[.int .i64 nb, .int .i64 np, .int .i64 sz], .int .i64 bad, .int .i64 res, .int .i64 D, .pointer (some ⟨g0, 1, none⟩), .int .i64 np, .int .i64 P, .int .i64 Cp, .map (some x1), undef, undef, .pointer (some ⟨g0, 0, none⟩), .int .i64 nb, .slice (some ⟨x4, 0, none⟩) nb nb, .pointer (some ⟨g0, 0, none⟩), .int .i64 nb, .slice (some ⟨x5, 0, none⟩) nb nb, undef, undef], []⟩ W := by
  unfold tops
  refine wpAnyH_ready (rs := [12, 13]) (by kernel_rfl) (by simp) ?_
  refine AllReadyH.cons rfl (fun K hK => ?_) (AllReadyH.cons rfl (fun K hK => ?_) AllReadyH.nil)
  · go_simp
    refine hK.out _ _ (hS.below (al_below W _)) (fun _ => ?_)
    try simp only [List.setIfInBounds_toArray, List.set]
    exact tr111011 hM1 hQ hN (W.alloc (.map #[] 0)) (hS.below (al_below W _)) (hb.trans ((al_below W _).mono hb.size)) x1 (ob_keep h1 (al_below W _)) l1 W.heap.size (heap_alloc_new W _) hb.size x4 (ob_keep h4 (al_below W _)) l4 x5 (ob_keep h5 (al_below W _)) l5 (Nat.ne_of_lt (ob_lt h1)) n14 n15 (Nat.ne_of_gt (ob_lt h4)) (Nat.ne_of_gt (ob_lt h5)) n45
  · go_simp
    refine hK.out _ _ (hS.below (al_below W _)) (fun _ => ?_)
    try simp only [List.setIfInBounds_toArray, List.set]
    exact tr110111 hM1 hQ hN (W.alloc (.map #[] 0)) (hS.below (al_below W _)) (hb.trans ((al_below W _).mono hb.size)) x1 (ob_keep h1 (al_below W _)) l1 W.heap.size (heap_alloc_new W _) hb.size x4 (ob_keep h4 (al_below W _)) l4 x5 (ob_keep h5 (al_below W _)) l5 (Nat.ne_of_lt (ob_lt h1)) n14 n15 (Nat.ne_of_gt (ob_lt h4)) (Nat.ne_of_gt (ob_lt h5)) n45

omit hD hP hC hB in
set_option maxRecDepth 100000 in
set_option maxHeartbeats 1000000 in
theorem tr101110 (W : World) (hS : GT g0 nb np sz W) (hb : Below w.heap.size w W) (x2 : Nat) (h2 : W.heap[x2]? = some (.map #[] 0)) (l2 : w.heap.size ≤ x2) (x3 : Nat) (h3 : W.heap[x3]? = some (.map #[] 0)) (l3 : w.heap.size ≤ x3) (x4 : Nat) (h4 : W.heap[x4]? = some (.cells csB 4)) (l4 : w.heap.size ≤ x4) (n23 : x2 ≠ x3) (n24 : x2 ≠ x4) (n34 : x3 ≠ x4) :
    wpAnyH Tryz.prog .any tops Q (GT g0 nb np sz) 5 #[true, true, true, true, true, true, true, true, true, true, true, false, true, true, true, true, true, true, true, false, false, false, false] ⟨#[.pointer (some ⟨cb, 0, none⟩), .int .i64 res, .int .i64 bad, undef, undef, undef, .pointer none, .pointer (some ⟨g0, 0, none⟩), .pointer (some ⟨cb, 0, none⟩), .agg #[.int .i64 nb, .int .i64 np, .int .i64 sz], .pointer (some ⟨cb, 0, none⟩), .int .i64 res, .int .i64 bad, .agg #[.int .i64 nb, .int .i64 np, .int .i64 sz], .int .i64 bad, .int .i64 res, .int .i64 D, .pointer (some ⟨g0, 1, none⟩), .int .i64 np, .int .i64 P, .int .i64 Cp, undef, .map (some x2), .map (some x3), .pointer (some ⟨g0, 0, none⟩), .int .i64 nb, .slice (some ⟨x4, 0, none⟩) nb nb, .pointer (some ⟨g0, 0, none⟩), .int .i64 nb, undef, undef, undef], []⟩ W := by
  unfold tops
  refine wpAnyH_ready (rs := [11, 19]) (by kernel_rfl) (by simp) ?_
  refine AllReadyH.cons rfl (fun K hK => ?_) (AllReadyH.cons rfl (fun K hK => ?_) AllReadyH.nil)
  · go_simp
    refine hK.out _ _ (hS.below (al_below W _)) (fun _ => ?_)
    try simp only [List.setIfInBounds_toArray, List.set]
    exact tr111110 hU hQ hN (W.alloc (.map #[] 0)) (hS.below (al_below W _)) (hb.trans ((al_below W _).mono hb.size)) W.heap.size (heap_alloc_new W _) hb.size x2 (ob_keep h2 (al_below W _)) l2 x3 (ob_keep h3 (al_below W _)) l3 x4 (ob_keep h4 (al_below W _)) l4 (Nat.ne_of_gt (ob_lt h2)) (Nat.ne_of_gt (ob_lt h3)) (Nat.ne_of_gt (ob_lt h4)) n23 n24 n34
  · go_simp
    refine hK.out _ _ (hS.below (al_below W _)) (fun _ => ?_)
    try simp only [List.setIfInBounds_toArray, List.set]
    exact tr101111 hM1 hQ hN (W.alloc (.cells csU 87)) (hS.below (al_below W _)) (hb.trans ((al_below W _).mono hb.size)) x2 (ob_keep h2 (al_below W _)) l2 x3 (ob_keep h3 (al_below W _)) l3 x4 (ob_keep h4 (al_below W _)) l4 W.heap.size (heap_alloc_new W _) hb.size n23 n24 (Nat.ne_of_lt (ob_lt h2)) n34 (Nat.ne_of_lt (ob_lt h3)) (Nat.ne_of_lt (ob_lt h4))

omit hD hP hC hU in
set_option maxRecDepth 100000 in
set_option maxHeartbeats 1000000 in
theorem tr101101 (W : World) (hS : GT g0 nb np sz W) (hb : Below w.heap.size w W) (x2 : Nat) (h2 : W.heap[x2]? = some (.map #[] 0)) (l2 : w.heap.size ≤ x2) (x3 : Nat) (h3 : W.heap[x3]? = some (.map #[] 0)) (l3 : w.heap.size ≤ x3) (x5 : Nat) (h5 : W.heap[x5]? = some (.cells csU 87)) (l5 : w.heap.size ≤ x5) (n23 : x2 ≠ x3) (n25 : x2 ≠ x5) (n35 : x3 ≠ x5) :
    wpAnyH Tryz.prog .any tops Q (GT g0 nb np sz) 5 #[true, true, true, true, true, true, true, true, true, true, true, false, true, true, true, true, false, true, true, true, false, false, false] ⟨#[.pointer (some ⟨cb, 0, none⟩), .int .i64 res, .int .i64 bad, undef, undef, undef, .pointer none, .pointer (some ⟨g0, 0, none⟩), .pointer (some ⟨cb, 0, none⟩), .agg #[.int .i64 nb, .int .i64 np, .int .i64 sz], .pointer (some ⟨cb, 0, none⟩), .int .i64 res, .int .i64 bad, .agg #[.int .i64 nb, .int .i64 np, .int .i64 sz], .int .i64 bad, .int .i64 res, .int .i64 D, .pointer (some ⟨g0, 1, none⟩), .int .i64 np, .int .i64 P, .int .i64 Cp, undef, .map (some x2), .map (some x3), .pointer (some ⟨g0, 0, none⟩), .int .i64 nb, undef, .pointer (some ⟨g0, 0, none⟩), .int .i64 nb, .slice (some ⟨x5, 0, none⟩) nb nb, undef, undef], []⟩ W := by
  unfold tops
  refine wpAnyH_ready (rs := [11, 16]) (by kernel_rfl) (by simp) ?_
  refine AllReadyH.cons rfl (fun K hK => ?_) (AllReadyH.cons rfl (fun K hK => ?_) AllReadyH.nil)
  · go_simp
    refine hK.out _ _ (hS.below (al_below W _)) (fun _ => ?_)
    try simp only [List.setIfInBounds_toArray, List.set]
    exact tr111101 hB hQ hN (W.alloc (.map #[] 0)) (hS.below (al_below W _)) (hb.trans ((al_below W _).mono hb.size)) W.heap.size (heap_alloc_new W _) hb.size x2 (ob_keep h2 (al_below W _)) l2 x3 (ob_keep h3 (al_below W _)) l3 x5 (ob_keep h5 (al_below W _)) l5 (Nat.ne_of_gt (ob_lt h2)) (Nat.ne_of_gt (ob_lt h3)) (Nat.ne_of_gt (ob_lt h5)) n23 n25 n35
  · go_simp
    refine hK.out _ _ (hS.below (al_below W _)) (fun _ => ?_)
    try simp only [List.setIfInBounds_toArray, List.set]
    exact tr101111 hM1 hQ hN (W.alloc (.cells csB 4)) (hS.below (al_below W _)) (hb.trans ((al_below W _).mono hb.size)) x2 (ob_keep h2 (al_below W _)) l2 x3 (ob_keep h3 (al_below W _)) l3 W.heap.size (heap_alloc_new W _) hb.size x5 (ob_keep h5 (al_below W _)) l5 n23 (Nat.ne_of_lt (ob_lt h2)) n25 (Nat.ne_of_lt (ob_lt h3)) n35 (Nat.ne_of_gt (ob_lt h5))

omit hD hP hC hB hU in
set_option maxRecDepth 100000 in
set_option maxHeartbeats 1000000 in
theorem tr101011 (W : World) (hS : GT g0 nb np sz W) (hb : Below w.heap.size w W) (x2 : Nat) (h2 : W.heap[x2]? = some (.map #[] 0)) (l2 : w.heap.size ≤ x2) (x4 : Nat) (h4 : W.heap[x4]? = some (.cells csB 4)) (l4 : w.heap.size ≤ x4) (x5 : Nat) (h5 : W.heap[x5]? = some (.cells csU 87)) (l5 : w.heap.size ≤ x5) (n24 : x2 ≠ x4) (n25 : x2 ≠ x5) (n45 : x4 ≠ x5) :
    wpAnyH Tryz.prog .any tops Q (GT g0 nb np sz) 5 #[true, true, true, true, true, true, true, true, true, true, true, false, true, false, true, true, true, true, true, true, false, false, false] ⟨#[.pointer (some ⟨cb, 0, none⟩), .int .i64 res, .int .i64 bad, undef, undef, undef, .pointer none, .pointer (some ⟨g0, 0, none⟩), .pointer (some ⟨cb, 0, none⟩), .agg #[.int .i64 nb, .int .i64 np, .int .i64 sz], .pointer (some ⟨cb, 0, none⟩), .int .i64 res, .int .i64 bad, .agg #[.int .i64 nb, .int .i64 np, .int .i64 sz], .int .i64 bad, .int .i64 res, .int .i64 D, .pointer (some ⟨g0, 1, none⟩), .int .i64 np, .int .i64 P, .int .i64 Cp, undef, .map (some x2), undef, .pointer (some ⟨g0, 0, none⟩), .int .i64 nb, .slice (some ⟨x4, 0, none⟩) nb nb, .pointer (some ⟨g0, 0, none⟩), .int .i64 nb, .slice (some ⟨x5, 0, none⟩) nb nb, undef, undef], []⟩ W := by
  unfold tops
  refine wpAnyH_ready (rs := [11, 13]) (by kernel_rfl) (by simp) ?_
  refine AllReadyH.cons rfl (fun K hK => ?_) (AllReadyH.cons rfl (fun K hK => ?_) AllReadyH.nil)
  · go_simp
    refine hK.out _ _ (hS.below (al_below W _)) (fun _ => ?_)
    try simp only [List.setIfInBounds_toArray, List.set]
    exact tr111011 hM1 hQ hN (W.alloc (.map #[] 0)) (hS.below (al_below W _)) (hb.trans ((al_below W _).mono hb.size)) W.heap.size (heap_alloc_new W _) hb.size x2 (ob_keep h2 (al_below W _)) l2 x4 (ob_keep h4 (al_below W _)) l4 x5 (ob_keep h5 (al_below W _)) l5 (Nat.ne_of_gt (ob_lt h2)) (Nat.ne_of_gt (ob_lt h4)) (Nat.ne_of_gt (ob_lt h5)) n24 n25 n45
  · go_simp
    refine hK.out _ _ (hS.below (al_below W _)) (fun _ => ?_)
    try simp only [List.setIfInBounds_toArray, List.set]
    exact tr101111 hM1 hQ hN (W.alloc (.map #[] 0)) (hS.below (al_below W _)) (hb.trans ((al_below W _).mono hb.size)) x2 (ob_keep h2 (al_below W _)) l2 W.heap.size (heap_alloc_new W _) hb.size x4 (ob_keep h4 (al_below W _)) l4 x5 (ob_keep h5 (al_below W _)) l5 (Nat.ne_of_lt (ob_lt h2)) n24 n25 (Nat.ne_of_gt (ob_lt h4)) (Nat.ne_of_gt (ob_lt h5)) n45

omit hD hP hC hB hU in
set_option maxRecDepth 100000 in
set_option maxHeartbeats 1000000 in
theorem tr100111 (W : World) (hS : GT g0 nb np sz W) (hb : Below w.heap.size w W) (x3 : Nat) (h3 : W.heap[x3]? = some (.map #[] 0)) (l3 : w.heap.size ≤ x3) (x4 : Nat) (h4 : W.heap[x4]? = some (.cells csB 4)) (l4 : w.heap.size ≤ x4) (x5 : Nat) (h5 : W.heap[x5]? = some (.cells csU 87)) (l5 : w.heap.size ≤ x5) (n34 : x3 ≠ x4) (n35 : x3 ≠ x5) (n45 : x4 ≠ x5) :
    wpAnyH Tryz.prog .any tops Q (GT g0 nb np sz) 5 #[true, true, true, true, true, true, true, true, true, true, true, false, false, true, true, true, true, true, true, true, false, false, false] ⟨#[.pointer (some ⟨cb, 0, none⟩), .int .i64 res, .int .i64 bad, undef, undef, undef, .pointer none, .pointer (some ⟨g0, 0, none⟩), .pointer (some ⟨cb, 0, none⟩), .agg #[.int .i64 nb, .int .i64 np, .int .i64 sz], .pointer (some ⟨cb, 0, none⟩), .int .i64 res, .int .i64 bad, .agg #[.int .i64 nb, .int .i64 np, .int .i64 sz], .int .i64 bad, .int .i64 res, .int .i64 D, .pointer (some ⟨g0, 1, none⟩), .int .i64 np, .int .i64 P, .int .i64 Cp, undef, undef, .map (some x3), .pointer (some ⟨g0, 0, none⟩), .int .i64 nb, .slice (some ⟨x4, 0, none⟩) nb nb, .pointer (some ⟨g0, 0, none⟩), .int .i64 nb, .slice (some ⟨x5, 0, none⟩) nb nb, undef, undef], []⟩ W := by
  unfold tops
  refine wpAnyH_ready (rs := [11, 12]) (by kernel_rfl) (by simp) ?_
  refine AllReadyH.cons rfl (fun K hK => ?_) (AllReadyH.cons rfl (fun K hK => ?_) AllReadyH.nil)
  · go_simp
    refine hK.out _ _ (hS.below (al_below W _)) (fun _ => ?_)
    try simp only [List.setIfInBounds_toArray, List.set]
    exact tr110111 hM1 hQ hN (W.alloc (.map #[] 0)) (hS.below (al_below W _)) (hb.trans ((al_below W _).mono hb.size)) W.heap.size (heap_alloc_new W _) hb.size x3 (ob_keep h3 (al_below W _)) l3 x4 (ob_keep h4 (al_below W _)) l4 x5 (ob_keep h5 (al_below W _)) l5 (Nat.ne_of_gt (ob_lt h3)) (Nat.ne_of_gt (ob_lt h4)) (Nat.ne_of_gt (ob_lt h5)) n34 n35 n45
  · go_simp
    refine hK.out _ _ (hS.below (al_below W _)) (fun _ => ?_)
    try simp only [List.setIfInBounds_toArray, List.set]
    exact tr101111 hM1 hQ hN (W.alloc (.map #[] 0)) (hS.below (al_below W _)) (hb.trans ((al_below W _).mono hb.size)) W.heap.size (heap_alloc_new W _) hb.size x3 (ob_keep h3 (al_below W _)) l3 x4 (ob_keep h4 (al_below W _)) l4 x5 (ob_keep h5 (al_below W _)) l5 (Nat.ne_of_gt (ob_lt h3)) (Nat.ne_of_gt (ob_lt h4)) (Nat.ne_of_gt (ob_lt h5)) n34 n35 n45

omit hM1 hB in
set_option maxRecDepth 100000 in
set_option maxHeartbeats 1000000 in
theorem tr011110 (W : World) (hS : GT g0 nb np sz W) (hb : Below w.heap.size w W) (x1 : Nat) (h1 : W.heap[x1]? = some (.map #[] 0)) (l1 : w.heap.size ≤ x1) (x2 : Nat) (h2 : W.heap[x2]? = some (.map #[] 0)) (l2 : w.heap.size ≤ x2) (x3 : Nat) (h3 : W.heap[x3]? = some (.map #[] 0)) (l3 : w.heap.size ≤ x3) (x4 : Nat) (h4 : W.heap[x4]? = some (.cells csB 4)) (l4 : w.heap.size ≤ x4) (n12 : x1 ≠ x2) (n13 : x1 ≠ x3) (n14 : x1 ≠ x4) (n23 : x2 ≠ x3) (n24 : x2 ≠ x4) (n34 : x3 ≠ x4) :
    wpAnyH Tryz.prog .any tops Q (GT g0 nb np sz) 7 #[true, true, true, true, true, true, false, true, true, false, false, true, true, true, true, true, true, true, true, false, false, false, false] ⟨#[.pointer (some ⟨cb, 0, none⟩), .int .i64 res, .int .i64 bad, undef, undef, undef, .pointer none, .pointer (some ⟨g0, 0, none⟩), .pointer (some ⟨cb, 0, none⟩), .agg #[.int .i64 nb, .int .i64 np, .int .i64 sz], .pointer (some ⟨cb, 0, none⟩), .int .i64 res, .int .i64 bad, .agg #[.int .i64 nb, .int .i64 np, .int .i64 sz], .int .i64 bad, .int .i64 res, undef, .pointer (some ⟨g0, 1, none⟩), .int .i64 np, undef, undef, .map (some x1), .map (some x2), .map (some x3), .pointer (some ⟨g0, 0, none⟩), .int .i64 nb, .slice (some ⟨x4, 0, none⟩) nb nb, .pointer (some ⟨g0, 0, none⟩), .int .i64 nb, undef, undef, undef], []⟩ W := by
  unfold tops
  refine wpAnyH_ready (rs := [6, 19]) (by kernel_rfl) (by simp) ?_
  refine AllReadyH.cons rfl (fun K hK => ?_) (AllReadyH.cons rfl (fun K hK => ?_) AllReadyH.nil)
  · go_simp
    refine (hD W).mono ?_
    rintro e W1 ⟨rfl, hW⟩
    refine hK.out _ _ (hS.below hW) (fun _ => ?_)
    try simp only [List.setIfInBounds_toArray, List.set]
    refine wpAnyH_take (i := 9) (v := .int .i64 P) rfl (by kernel_rfl) (by kernel_rfl) (by kernel_rfl) (fun c a w h => hN c _ a _ w h) (Or.inl ⟨by kernel_rfl, ?_⟩) (hS.below hW) ?_
    · intro w' hSw
      go_simp
    refine wpAnyH_take (i := 10) (v := .int .i64 Cp) rfl (by kernel_rfl) (by kernel_rfl) (by kernel_rfl) (fun c a w h => hN c _ a _ w h) (Or.inl ⟨by kernel_rfl, ?_⟩) (hS.below hW) ?_
    · intro w' hSw
      go_simp
    try simp only [List.setIfInBounds_toArray, List.set]
    exact tr111110 hU hQ hN W1 (hS.below hW) (hb.trans (hW.mono hb.size)) x1 (ob_keep h1 hW) l1 x2 (ob_keep h2 hW) l2 x3 (ob_keep h3 hW) l3 x4 (ob_keep h4 hW) l4 n12 n13 n14 n23 n24 n34
  · go_simp
    refine hK.out _ _ (hS.below (al_below W _)) (fun _ => ?_)
    try simp only [List.setIfInBounds_toArray, List.set]
    exact tr011111 hD hP hC hQ hN (W.alloc (.cells csU 87)) (hS.below (al_below W _)) (hb.trans ((al_below W _).mono hb.size)) x1 (ob_keep h1 (al_below W _)) l1 x2 (ob_keep h2 (al_below W _)) l2 x3 (ob_keep h3 (al_below W _)) l3 x4 (ob_keep h4 (al_below W _)) l4 W.heap.size (heap_alloc_new W _) hb.size n12 n13 n14 (Nat.ne_of_lt (ob_lt h1)) n23 n24 (Nat.ne_of_lt (ob_lt h2)) n34 (Nat.ne_of_lt (ob_lt h3)) (Nat.ne_of_lt (ob_lt h4))

omit hM1 hU in
set_option maxRecDepth 100000 in
set_option maxHeartbeats 1000000 in
theorem tr011101 (W : World) (hS : GT g0 nb np sz W) (hb : Below w.heap.size w W) (x1 : Nat) (h1 : W.heap[x1]? = some (.map #[] 0)) (l1 : w.heap.size ≤ x1) (x2 : Nat) (h2 : W.heap[x2]? = some (.map #[] 0)) (l2 : w.heap.size ≤ x2) (x3 : Nat) (h3 : W.heap[x3]? = some (.map #[] 0)) (l3 : w.heap.size ≤ x3) (x5 : Nat) (h5 : W.heap[x5]? = some (.cells csU 87)) (l5 : w.heap.size ≤ x5) (n12 : x1 ≠ x2) (n13 : x1 ≠ x3) (n15 : x1 ≠ x5) (n23 : x2 ≠ x3) (n25 : x2 ≠ x5) (n35 : x3 ≠ x5) :
    wpAnyH Tryz.prog .any tops Q (GT g0 nb np sz) 7 #[true, true, true, true, true, true, false, true, true, false, false, true, true, true, true, true, false, true, true, true, false, false, false] ⟨#[.pointer (some ⟨cb, 0, none⟩), .int .i64 res, .int .i64 bad, undef, undef, undef, .pointer none, .pointer (some ⟨g0, 0, none⟩), .pointer (some ⟨cb, 0, none⟩), .agg #[.int .i64 nb, .int .i64 np, .int .i64 sz], .pointer (some ⟨cb, 0, none⟩), .int .i64 res, .int .i64 bad, .agg #[.int .i64 nb, .int .i64 np, .int .i64 sz], .int .i64 bad, .int .i64 res, undef, .pointer (some ⟨g0, 1, none⟩), .int .i64 np, undef, undef, .map (some x1), .map (some x2), .map (some x3), .pointer (some ⟨g0, 0, none⟩), .int .i64 nb, undef, .pointer (some ⟨g0, 0, none⟩), .int .i64 nb, .slice (some ⟨x5, 0, none⟩) nb nb, undef, undef], []⟩ W := by
  unfold tops
  refine wpAnyH_ready (rs := [6, 16]) (by kernel_rfl) (by simp) ?_
  refine AllReadyH.cons rfl (fun K hK => ?_) (AllReadyH.cons rfl (fun K hK => ?_) AllReadyH.nil)
  · go_simp
    refine (hD W).mono ?_
    rintro e W1 ⟨rfl, hW⟩
    refine hK.out _ _ (hS.below hW) (fun _ => ?_)
    try simp only [List.setIfInBounds_toArray, List.set]
    refine wpAnyH_take (i := 9) (v := .int .i64 P) rfl (by kernel_rfl) (by kernel_rfl) (by kernel_rfl) (fun c a w h => hN c _ a _ w h) (Or.inl ⟨by kernel_rfl, ?_⟩) (hS.below hW) ?_
    · intro w' hSw
      go_simp
    refine wpAnyH_take (i := 10) (v := .int .i64 Cp) rfl (by kernel_rfl) (by kernel_rfl) (by kernel_rfl) (fun c a w h => hN c _ a _ w h) (Or.inl ⟨by kernel_rfl, ?_⟩) (hS.below hW) ?_
    · intro w' hSw
      go_simp
    try simp only [List.setIfInBounds_toArray, List.set]
    exact tr111101 hB hQ hN W1 (hS.below hW) (hb.trans (hW.mono hb.size)) x1 (ob_keep h1 hW) l1 x2 (ob_keep h2 hW) l2 x3 (ob_keep h3 hW) l3 x5 (ob_keep h5 hW) l5 n12 n13 n15 n23 n25 n35
  · go_simp
    refine hK.out _ _ (hS.below (al_below W _)) (fun _ => ?_)
    try simp only [List.setIfInBounds_toArray, List.set]
    exact tr011111 hD hP hC hQ hN (W.alloc (.cells csB 4)) (hS.below (al_below W _)) (hb.trans ((al_below W _).mono hb.size)) x1 (ob_keep h1 (al_below W _)) l1 x2 (ob_keep h2 (al_below W _)) l2 x3 (ob_keep h3 (al_below W _)) l3 W.heap.size (heap_alloc_new W _) hb.size x5 (ob_keep h5 (al_below W _)) l5 n12 n13 (Nat.ne_of_lt (ob_lt h1)) n15 n23 (Nat.ne_of_lt (ob_lt h2)) n25 (Nat.ne_of_lt (ob_lt h3)) n35 (Nat.ne_of_gt (ob_lt h5))

omit hB hU in
set_option maxRecDepth 100000 in
set_option maxHeartbeats 1000000 in
theorem tr011011 (W : World) (hS : GT g0 nb np sz W) (hb : Below w.heap.size w W) (x1 : Nat) (h1 : W.heap[x1]? = some (.map #[] 0)) (l1 : w.heap.size ≤ x1) (x2 : Nat) (h2 : W.heap[x2]? = some (.map #[] 0)) (l2 : w.heap.size ≤ x2) (x4 : Nat) (h4 : W.heap[x4]? = some (.cells csB 4)) (l4 : w.heap.size ≤ x4) (x5 : Nat) (h5 : W.heap[x5]? = some (.cells csU 87)) (l5 : w.heap.size ≤ x5) (n12 : x1 ≠ x2) (n14 : x1 ≠ x4) (n15 : x1 ≠ x5) (n24 : x2 ≠ x4) (n25 : x2 ≠ x5) (n45 : x4 ≠ x5) :
    wpAnyH Tryz.prog .any tops Q (GT g0 nb np sz) 7 #[true, true, true, true, true, true, false, true, true, false, false, true, true, false, true, true, true, true, true, true, false, false, false] ⟨#[.pointer (some ⟨cb, 0, none⟩), .int .i64 res, .int .i64 bad, undef, undef, undef, .pointer none, .pointer (some ⟨g0, 0, none⟩), .pointer (some ⟨cb, 0, none⟩), .agg #[.int .i64 nb, .int .i64 np, .int .i64 sz], .pointer (some ⟨cb, 0, none⟩), .int .i64 res, .int .i64 bad, .agg #[.int .i64 nb, .int .i64 np, .int .i64 sz], .int .i64 bad, .int .i64 res, undef, .pointer (some ⟨g0, 1, none⟩), .int .i64 np, undef, undef, .map (some x1), .map (some x2), undef, .pointer (some ⟨g0, 0, none⟩), .int .i64 nb, .slice (some ⟨x4, 0, none⟩) nb nb, .pointer (some ⟨g0, 0, none⟩), .int .i64 nb, .slice (some ⟨x5, 0, none⟩) nb nb, undef, undef], []⟩ W := by
  unfold tops
  refine wpAnyH_ready (rs := [6, 13]) (by kernel_rfl) (by simp) ?_
  refine AllReadyH.cons rfl (fun K hK => ?_) (AllReadyH.cons rfl (fun K hK => ?_) AllReadyH.nil)
  · go_simp
    refine (hD W).mono ?_
    rintro e W1 ⟨rfl, hW⟩
    refine hK.out _ _ (hS.below hW) (fun _ => ?_)
    try simp only [List.setIfInBounds_toArray, List.set]
    refine wpAnyH_take (i := 9) (v := .int .i64 P) rfl (by kernel_rfl) (by kernel_rfl) (by kernel_rfl) (fun c a w h => hN c _ a _ w h) (Or.inl ⟨by kernel_rfl, ?_⟩) (hS.below hW) ?_
    · intro w' hSw
      go_simp
    refine wpAnyH_take (i := 10) (v := .int .i64 Cp) rfl (by kernel_rfl) (by kernel_rfl) (by kernel_rfl) (fun c a w h => hN c _ a _ w h) (Or.inl ⟨by kernel_rfl, ?_⟩) (hS.below hW) ?_
    · intro w' hSw
      go_simp
    try simp only [List.setIfInBounds_toArray, List.set]
    exact tr111011 hM1 hQ hN W1 (hS.below hW) (hb.trans (hW.mono hb.size)) x1 (ob_keep h1 hW) l1 x2 (ob_keep h2 hW) l2 x4 (ob_keep h4 hW) l4 x5 (ob_keep h5 hW) l5 n12 n14 n15 n24 n25 n45
  · go_simp
    refine hK.out _ _ (hS.below (al_below W _)) (fun _ => ?_)
    try simp only [List.setIfInBounds_toArray, List.set]
    exact tr011111 hD hP hC hQ hN (W.alloc (.map #[] 0)) (hS.below (al_below W _)) (hb.trans ((al_below W _).mono hb.size)) x1 (ob_keep h1 (al_below W _)) l1 x2 (ob_keep h2 (al_below W _)) l2 W.heap.size (heap_alloc_new W _) hb.size x4 (ob_keep h4 (al_below W _)) l4 x5 (ob_keep h5 (al_below W _)) l5 n12 (Nat.ne_of_lt (ob_lt h1)) n14 n15 (Nat.ne_of_lt (ob_lt h2)) n24 n25 (Nat.ne_of_gt (ob_lt h4)) (Nat.ne_of_gt (ob_lt h5)) n45

omit hB hU in
set_option maxRecDepth 100000 in
set_option maxHeartbeats 1000000 in
theorem tr010111 (W : World) (hS : GT g0 nb np sz W) (hb : Below w.heap.size w W) (x1 : Nat) (h1 : W.heap[x1]? = some (.map #[] 0)) (l1 : w.heap.size ≤ x1) (x3 : Nat) (h3 : W.heap[x3]? = some (.map #[] 0)) (l3 : w.heap.size ≤ x3) (x4 : Nat) (h4 : W.heap[x4]? = some (.cells csB 4)) (l4 : w.heap.size ≤ x4) (x5 : Nat) (h5 : W.heap[x5]? = some (.cells csU 87)) (l5 : w.heap.size ≤ x5) (n13 : x1 ≠ x3) (n14 : x1 ≠ x4) (n15 : x1 ≠ x5) (n34 : x3 ≠ x4) (n35 : x3 ≠ x5) (n45 : x4 ≠ x5) :
    wpAnyH Tryz.prog .any tops Q (GT g0 nb np sz) 7 #[true, true, true, true, true, true, false, true, true, false, false, true, false, true, true, true, true, true, true, true, false, false, false] ⟨#[.pointer (some ⟨cb, 0, none⟩), .int .i64 res, .int .i64 bad, undef, undef, undef, .pointer none, .pointer (some ⟨g0, 0, none⟩), .pointer (some ⟨cb, 0, none⟩), .agg #[.int .i64 nb, .int .i64 np, .int .i64 sz], .pointer (some ⟨cb, 0, none⟩), .int .i64 res, .int .i64 bad, .agg #[.int .i64 nb, .int .i64 np, .int .i64 sz], .int .i64 bad, .int .i64 res, undef, .pointer (some ⟨g0, 1, none⟩), .int .i64 np, undef, undef, .map (some x1), undef, .map (some x3), .pointer (some ⟨g0, 0, none⟩), .int .i64 nb, .slice (some ⟨x4, 0, none⟩) nb nb, .pointer (some ⟨g0, 0, none⟩), .int .i64 nb, .slice (some ⟨x5, 0, none⟩) nb nb, undef, undef], []⟩ W := by
  unfold tops
  refine wpAnyH_ready (rs := [6, 12]) (by kernel_rfl) (by simp) ?_
  refine AllReadyH.cons rfl (fun K hK => ?_) (AllReadyH.cons rfl (fun K hK => ?_) AllReadyH.nil)
  · go_simp
    refine (hD W).mono ?_
    rintro e W1 ⟨rfl, hW⟩
    refine hK.out _ _ (hS.below hW) (fun _ => ?_)
    try simp only [List.setIfInBounds_toArray, List.set]
    refine wpAnyH_take (i := 9) (v := .int .i64 P) rfl (by kernel_rfl) (by kernel_rfl) (by kernel_rfl) (fun c a w h => hN c _ a _ w h) (Or.inl ⟨by kernel_rfl, ?_⟩) (hS.below hW) ?_
    · intro w' hSw
      go_simp
    refine wpAnyH_take (i := 10) (v := .int .i64 Cp) rfl (by kernel_rfl) (by kernel_rfl) (by kernel_rfl) (fun c a w h => hN c _ a _ w h) (Or.inl ⟨by kernel_rfl, ?_⟩) (hS.below hW) ?_
    · intro w' hSw
      go_simp
    try simp only [List.setIfInBounds_toArray, List.set]
    exact tr110111 hM1 hQ hN W1 (hS.below hW) (hb.trans (hW.mono hb.size)) x1 (ob_keep h1 hW) l1 x3 (ob_keep h3 hW) l3 x4 (ob_keep h4 hW) l4 x5 (ob_keep h5 hW) l5 n13 n14 n15 n34 n35 n45
  · go_simp
    refine hK.out _ _ (hS.below (al_below W _)) (fun _ => ?_)
    try simp only [List.setIfInBounds_toArray, List.set]
    exact tr011111 hD hP hC hQ hN (W.alloc (.map #[] 0)) (hS.below (al_below W _)) (hb.trans ((al_below W _).mono hb.size)) x1 (ob_keep h1 (al_below W _)) l1 W.heap.size (heap_alloc_new W _) hb.size x3 (ob_keep h3 (al_below W _)) l3 x4 (ob_keep h4 (al_below W _)) l4 x5 (ob_keep h5 (al_below W _)) l5 (Nat.ne_of_lt (ob_lt h1)) n13 n14 n15 (Nat.ne_of_gt (ob_lt h3)) (Nat.ne_of_gt (ob_lt h4)) (Nat.ne_of_gt (ob_lt h5)) n34 n35 n45

omit hB hU in
set_option maxRecDepth 100000 in
set_option maxHeartbeats 1000000 in
theorem tr001111 (W : World) (hS : GT g0 nb np sz W) (hb : Below w.heap.size w W) (x2 : Nat) (h2 : W.heap[x2]? = some (.map #[] 0)) (l2 : w.heap.size ≤ x2) (x3 : Nat) (h3 : W.heap[x3]? = some (.map #[] 0)) (l3 : w.heap.size ≤ x3) (x4 : Nat) (h4 : W.heap[x4]? = some (.cells csB 4)) (l4 : w.heap.size ≤ x4) (x5 : Nat) (h5 : W.heap[x5]? = some (.cells csU 87)) (l5 : w.heap.size ≤ x5) (n23 : x2 ≠ x3) (n24 : x2 ≠ x4) (n25 : x2 ≠ x5) (n34 : x3 ≠ x4) (n35 : x3 ≠ x5) (n45 : x4 ≠ x5) :
    wpAnyH Tryz.prog .any tops Q (GT g0 nb np sz) 7 #[true, true, true, true, true, true, false, true, true, false, false, false, true, true, true, true, true, true, true, true, false, false, false] ⟨#[.pointer (some ⟨cb, 0, none⟩), .int .i64 res, .int .i64 bad, undef, undef, undef, .pointer none, .pointer (some ⟨g0, 0, none⟩), .pointer (some ⟨cb, 0, none⟩), .agg #[.int .i64 nb, .int .i64 np, .int .i64 sz], .pointer (some ⟨cb, 0, none⟩), .int .i64 res, .int .i64 bad, .agg #[.int .i64 nb, .int .i64 np, .int .i64 sz], .int .i64 bad, .int .i64 res, undef, .pointer (some ⟨g0, 1, none⟩), .int .i64 np, undef, undef, undef, .map (some x2), .map (some x3), .pointer (some ⟨g0, 0, none⟩), .int .i64 nb, .slice (some ⟨x4, 0, none⟩) nb nb, .pointer (some ⟨g0, 0, none⟩), .int .i64 nb, .slice (some ⟨x5, 0, none⟩) nb nb, undef, undef], []⟩ W := by
  unfold tops
  refine wpAnyH_ready (rs := [6, 11]) (by kernel_rfl) (by simp) ?_
  refine AllReadyH.cons rfl (fun K hK => ?_) (AllReadyH.cons rfl (fun K hK => ?_) AllReadyH.nil)
  · go_simp
    refine (hD W).mono ?_
    rintro e W1 ⟨rfl, hW⟩
    refine hK.out _ _ (hS.below hW) (fun _ => ?_)
    try simp only [List.setIfInBounds_toArray, List.set]
    refine wpAnyH_take (i := 9) (v := .int .i64 P) rfl (by kernel_rfl) (by kernel_rfl) (by kernel_rfl) (fun c a w h => hN c _ a _ w h) (Or.inl ⟨by kernel_rfl, ?_⟩) (hS.below hW) ?_
    · intro w' hSw
      go_simp
    refine wpAnyH_take (i := 10) (v := .int .i64 Cp) rfl (by kernel_rfl) (by kernel_rfl) (by kernel_rfl) (fun c a w h => hN c _ a _ w h) (Or.inl ⟨by kernel_rfl, ?_⟩) (hS.below hW) ?_
    · intro w' hSw
      go_simp
    try simp only [List.setIfInBounds_toArray, List.set]
    exact tr101111 hM1 hQ hN W1 (hS.below hW) (hb.trans (hW.mono hb.size)) x2 (ob_keep h2 hW) l2 x3 (ob_keep h3 hW) l3 x4 (ob_keep h4 hW) l4 x5 (ob_keep h5 hW) l5 n23 n24 n25 n34 n35 n45
  · go_simp
    refine hK.out _ _ (hS.below (al_below W _)) (fun _ => ?_)
    try simp only [List.setIfInBounds_toArray, List.set]
    exact tr011111 hD hP hC hQ hN (W.alloc (.map #[] 0)) (hS.below (al_below W _)) (hb.trans ((al_below W _).mono hb.size)) W.heap.size (heap_alloc_new W _) hb.size x2 (ob_keep h2 (al_below W _)) l2 x3 (ob_keep h3 (al_below W _)) l3 x4 (ob_keep h4 (al_below W _)) l4 x5 (ob_keep h5 (al_below W _)) l5 (Nat.ne_of_gt (ob_lt h2)) (Nat.ne_of_gt (ob_lt h3)) (Nat.ne_of_gt (ob_lt h4)) (Nat.ne_of_gt (ob_lt h5)) n23 n24 n25 n34 n35 n45

omit hD hP hC in
set_option maxRecDepth 100000 in
set_option maxHeartbeats 1000000 in
theorem tr111000 (W : World) (hS : GT g0 nb np sz W) (hb : Below w.heap.size w W) (x1 : Nat) (h1 : W.heap[x1]? = some (.map #[] 0)) (l1 : w.heap.size ≤ x1) (x2 : Nat) (h2 : W.heap[x2]? = some (.map #[] 0)) (l2 : w.heap.size ≤ x2) (n12 : x1 ≠ x2) :
    wpAnyH Tryz.prog .any tops Q (GT g0 nb np sz) 6 #[true, true, true, true, true, true, true, true, true, true, true, true, true, false, true, true, false, true, true, false, false, false, false] ⟨#[.pointer (some ⟨cb, 0, none⟩), .int .i64 res, .int .i64 bad, undef, undef, undef, .pointer none, .pointer (some ⟨g0, 0, none⟩), .pointer (some ⟨cb, 0, none⟩), .agg #[.int .i64 nb, .int .i64 np, .int .i64 sz], .pointer (some ⟨cb, 0, none⟩), .int .i64 res, .int .i64 bad, .agg #[.int .i64 nb, .int .i64 np, .int .i64 sz], .int .i64 bad, .int .i64 res, .int .i64 D, .pointer (some ⟨g0, 1, none⟩), .int .i64 np, .int .i64 P, .int .i64 Cp, .map (some x1), .map (some x2), undef, .pointer (some ⟨g0, 0, none⟩), .int .i64 nb, undef, .pointer (some ⟨g0, 0, none⟩), .int .i64 nb, undef, undef, undef], []⟩ W := by
  unfold tops
  refine wpAnyH_ready (rs := [13, 16, 19]) (by kernel_rfl) (by simp) ?_
  refine AllReadyH.cons rfl (fun K hK => ?_) (AllReadyH.cons rfl (fun K hK => ?_) (AllReadyH.cons rfl (fun K hK => ?_) AllReadyH.nil))
  · go_simp
    refine hK.out _ _ (hS.below (al_below W _)) (fun _ => ?_)
    try simp only [List.setIfInBounds_toArray, List.set]
    exact tr111100 hB hU hQ hN (W.alloc (.map #[] 0)) (hS.below (al_below W _)) (hb.trans ((al_below W _).mono hb.size)) x1 (ob_keep h1 (al_below W _)) l1 x2 (ob_keep h2 (al_below W _)) l2 W.heap.size (heap_alloc_new W _) hb.size n12 (Nat.ne_of_lt (ob_lt h1)) (Nat.ne_of_lt (ob_lt h2))
  · go_simp
    refine hK.out _ _ (hS.below (al_below W _)) (fun _ => ?_)
    try simp only [List.setIfInBounds_toArray, List.set]
    exact tr111010 hM1 hU hQ hN (W.alloc (.cells csB 4)) (hS.below (al_below W _)) (hb.trans ((al_below W _).mono hb.size)) x1 (ob_keep h1 (al_below W _)) l1 x2 (ob_keep h2 (al_below W _)) l2 W.heap.size (heap_alloc_new W _) hb.size n12 (Nat.ne_of_lt (ob_lt h1)) (Nat.ne_of_lt (ob_lt h2))
  · go_simp
    refine hK.out _ _ (hS.below (al_below W _)) (fun _ => ?_)
    try simp only [List.setIfInBounds_toArray, List.set]
    exact tr111001 hM1 hB hQ hN (W.alloc (.cells csU 87)) (hS.below (al_below W _)) (hb.trans ((al_below W _).mono hb.size)) x1 (ob_keep h1 (al_below W _)) l1 x2 (ob_keep h2 (al_below W _)) l2 W.heap.size (heap_alloc_new W _) hb.size n12 (Nat.ne_of_lt (ob_lt h1)) (Nat.ne_of_lt (ob_lt h2))

omit hD hP hC in
set_option maxRecDepth 100000 in
set_option maxHeartbeats 1000000 in
theorem tr110100 (W : World) (hS : GT g0 nb np sz W) (hb : Below w.heap.size w W) (x1 : Nat) (h1 : W.heap[x1]? = some (.map #[] 0)) (l1 : w.heap.size ≤ x1) (x3 : Nat) (h3 : W.heap[x3]? = some (.map #[] 0)) (l3 : w.heap.size ≤ x3) (n13 : x1 ≠ x3) :
    wpAnyH Tryz.prog .any tops Q (GT g0 nb np sz) 6 #[true, true, true, true, true, true, true, true, true, true, true, true, false, true, true, true, false, true, true, false, false, false, false] ⟨#[.pointer (some ⟨cb, 0, none⟩), .int .i64 res, .int .i64 bad, undef, undef, undef, .pointer none, .pointer (some ⟨g0, 0, none⟩), .pointer (some ⟨cb, 0, none⟩), .agg #[.int .i64 nb, .int .i64 np, .int .i64 sz], .pointer (some ⟨cb, 0, none⟩), .int .i64 res, .int .i64 bad, .agg #[.int .i64 nb, .int .i64 np, .int .i64 sz], .int .i64 bad, .int .i64 res, .int .i64 D, .pointer (some ⟨g0, 1, none⟩), .int .i64 np, .int .i64 P, .int .i64 Cp, .map (some x1), undef, .map (some x3), .pointer (some ⟨g0, 0, none⟩), .int .i64 nb, undef, .pointer (some ⟨g0, 0, none⟩), .int .i64 nb, undef, undef, undef], []⟩ W := by
  unfold tops
  refine wpAnyH_ready (rs := [12, 16, 19]) (by kernel_rfl) (by simp) ?_
  refine AllReadyH.cons rfl (fun K hK => ?_) (AllReadyH.cons rfl (fun K hK => ?_) (AllReadyH.cons rfl (fun K hK => ?_) AllReadyH.nil))
  · go_simp
    refine hK.out _ _ (hS.below (al_below W _)) (fun _ => ?_)
    try simp only [List.setIfInBounds_toArray, List.set]
    exact tr111100 hB hU hQ hN (W.alloc (.map #[] 0)) (hS.below (al_below W _)) (hb.trans ((al_below W _).mono hb.size)) x1 (ob_keep h1 (al_below W _)) l1 W.heap.size (heap_alloc_new W _) hb.size x3 (ob_keep h3 (al_below W _)) l3 (Nat.ne_of_lt (ob_lt h1)) n13 (Nat.ne_of_gt (ob_lt h3))
  · go_simp
    refine hK.out _ _ (hS.below (al_below W _)) (fun _ => ?_)
    try simp only [List.setIfInBounds_toArray, List.set]
    exact tr110110 hM1 hU hQ hN (W.alloc (.cells csB 4)) (hS.below (al_below W _)) (hb.trans ((al_below W _).mono hb.size)) x1 (ob_keep h1 (al_below W _)) l1 x3 (ob_keep h3 (al_below W _)) l3 W.heap.size (heap_alloc_new W _) hb.size n13 (Nat.ne_of_lt (ob_lt h1)) (Nat.ne_of_lt (ob_lt h3))
  · go_simp
    refine hK.out _ _ (hS.below (al_below W _)) (fun _ => ?_)
    try simp only [List.setIfInBounds_toArray, List.set]
    exact tr110101 hM1 hB hQ hN (W.alloc (.cells csU 87)) (hS.below (al_below W _)) (hb.trans ((al_below W _).mono hb.size)) x1 (ob_keep h1 (al_below W _)) l1 x3 (ob_keep h3 (al_below W _)) l3 W.heap.size (heap_alloc_new W _) hb.size n13 (Nat.ne_of_lt (ob_lt h1)) (Nat.ne_of_lt (ob_lt h3))

omit hD hP hC hB in
set_option maxRecDepth 100000 in
set_option maxHeartbeats 1000000 in
theorem tr110010 (W : World) (hS : GT g0 nb np sz W) (hb : Below w.heap.size w W) (x1 : Nat) (h1 : W.heap[x1]? = some (.map #[] 0)) (l1 : w.heap.size ≤ x1) (x4 : Nat) (h4 : W.heap[x4]? = some (.cells csB 4)) (l4 : w.heap.size ≤ x4) (n14 : x1 ≠ x4) :
    wpAnyH Tryz.prog .any tops Q (GT g0 nb np sz) 6 #[true, true, true, true, true, true, true, true, true, true, true, true, false, false, true, true, true, true, true, false, false, false, false] ⟨#[.pointer (some ⟨cb, 0, none⟩), .int .i64 res, .int .i64 bad, undef, undef, undef, .pointer none, .pointer (some ⟨g0, 0, none⟩), .pointer (some ⟨cb, 0, none⟩), .agg #[.int .i64 nb, .int .i64 np, .int .i64 sz], .pointer (some ⟨cb, 0, none⟩), .int .i64 res, .int .i64 bad, .agg #[.int .i64 nb, .int .i64 np, .int .i64 sz], .int .i64 bad, .int .i64 res, .int .i64 D, .pointer (some ⟨g0, 1, none⟩), .int .i64 np, .int .i64 P, .int .i64 Cp, .map (some x1), undef, undef, .pointer (some ⟨g0, 0, none⟩), .int .i64 nb, .slice (some ⟨x4, 0, none⟩) nb nb, .pointer (some ⟨g0, 0, none⟩), .int .i64 nb, undef, undef, undef], []⟩ W := by
  unfold tops
  refine wpAnyH_ready (rs := [12, 13, 19]) (by kernel_rfl) (by simp) ?_
  refine AllReadyH.cons rfl (fun K hK => ?_) (AllReadyH.cons rfl (fun K hK => ?_) (AllReadyH.cons rfl (fun K hK => ?_) AllReadyH.nil))
  · go_simp
    refine hK.out _ _ (hS.below (al_below W _)) (fun _ => ?_)
    try simp only [List.setIfInBounds_toArray, List.set]
    exact tr111010 hM1 hU hQ hN (W.alloc (.map #[] 0)) (hS.below (al_below W _)) (hb.trans ((al_below W _).mono hb.size)) x1 (ob_keep h1 (al_below W _)) l1 W.heap.size (heap_alloc_new W _) hb.size x4 (ob_keep h4 (al_below W _)) l4 (Nat.ne_of_lt (ob_lt h1)) n14 (Nat.ne_of_gt (ob_lt h4))
  · go_simp
    refine hK.out _ _ (hS.below (al_below W _)) (fun _ => ?_)
    try simp only [List.setIfInBounds_toArray, List.set]
    exact tr110110 hM1 hU hQ hN (W.alloc (.map #[] 0)) (hS.below (al_below W _)) (hb.trans ((al_below W _).mono hb.size)) x1 (ob_keep h1 (al_below W _)) l1 W.heap.size (heap_alloc_new W _) hb.size x4 (ob_keep h4 (al_below W _)) l4 (Nat.ne_of_lt (ob_lt h1)) n14 (Nat.ne_of_gt (ob_lt h4))
  · go_simp
    refine hK.out _ _ (hS.below (al_below W _)) (fun _ => ?_)
    try simp only [List.setIfInBounds_toArray, List.set]
    exact tr110011 hM1 hQ hN (W.alloc (.cells csU 87)) (hS.below (al_below W _)) (hb.trans ((al_below W _).mono hb.size)) x1 (ob_keep h1 (al_below W _)) l1 x4 (ob_keep h4 (al_below W _)) l4 W.heap.size (heap_alloc_new W _) hb.size n14 (Nat.ne_of_lt (ob_lt h1)) (Nat.ne_of_lt (ob_lt h4))

omit hD hP hC hU in
set_option maxRecDepth 100000 in
set_option maxHeartbeats 1000000 in
theorem tr110001 (W : World) (hS : GT g0 nb np sz W) (hb : Below w.heap.size w W) (x1 : Nat) (h1 : W.heap[x1]? = some (.map #[] 0)) (l1 : w.heap.size ≤ x1) (x5 : Nat) (h5 : W.heap[x5]? = some (.cells csU 87)) (l5 : w.heap.size ≤ x5) (n15 : x1 ≠ x5) :
    wpAnyH Tryz.prog .any tops Q (GT g0 nb np sz) 6 #[true, true, true, true, true, true, true, true, true, true, true, true, false, false, true, true, false, true, true, true, false, false, false] ⟨#[.pointer (some ⟨cb, 0, none⟩), .int .i64 res, .int .i64 bad, undef, undef, undef, .pointer none, .pointer (some ⟨g0, 0, none⟩), .pointer (some ⟨cb, 0, none⟩), .agg #[.int .i64 nb, .int .i64 np, .int .i64 sz], .pointer (some ⟨cb, 0, none⟩), .int .i64 res, .int .i64 bad, .agg #[.int .i64 nb, .int .i64 np, .int .i64 sz], .int .i64 bad, .int .i64 res, .int .i64 D, .pointer (some ⟨g0, 1, none⟩), .int .i64 np, .int .i64 P, .int .i64 Cp, .map (some x1), undef, undef, .pointer (some ⟨g0, 0, none⟩), .int .i64 nb, undef, .pointer (some ⟨g0, 0, none⟩), .int .i64 nb, .slice (some ⟨x5, 0, none⟩) nb nb, undef, undef], []⟩ W := by
  unfold tops
  refine wpAnyH_ready (rs := [12, 13, 16]) (by kernel_rfl) (by simp) ?_
  refine AllReadyH.cons rfl (fun K hK => ?_) (AllReadyH.cons rfl (fun K hK => ?_) (AllReadyH.cons rfl (fun K hK => ?_) AllReadyH.nil))
  · go_simp
    refine hK.out _ _ (hS.below (al_below W _)) (fun _ => ?_)
    try simp only [List.setIfInBounds_toArray, List.set]
    exact tr111001 hM1 hB hQ hN (W.alloc (.map #[] 0)) (hS.below (al_below W _)) (hb.trans ((al_below W _).mono hb.size)) x1 (ob_keep h1 (al_below W _)) l1 W.heap.size (heap_alloc_new W _) hb.size x5 (ob_keep h5 (al_below W _)) l5 (Nat.ne_of_lt (ob_lt h1)) n15 (Nat.ne_of_gt (ob_lt h5))
  · go_simp
    refine hK.out _ _ (hS.below (al_below W _)) (fun _ => ?_)
    try simp only [List.setIfInBounds_toArray, List.set]
    exact tr110101 hM1 hB hQ hN (W.alloc (.map #[] 0)) (hS.below (al_below W _)) (hb.trans ((al_below W _).mono hb.size)) x1 (ob_keep h1 (al_below W _)) l1 W.heap.size (heap_alloc_new W _) hb.size x5 (ob_keep h5 (al_below W _)) l5 (Nat.ne_of_lt (ob_lt h1)) n15 (Nat.ne_of_gt (ob_lt h5))
  · go_simp
    refine hK.out _ _ (hS.below (al_below W _)) (fun _ => ?_)
    try simp only [List.setIfInBounds_toArray, List.set]
    exact tr110011 hM1 hQ hN (W.alloc (.cells csB 4)) (hS.below (al_below W _)) (hb.trans ((al_below W _).mono hb.size)) x1 (ob_keep h1 (al_below W _)) l1 W.heap.size (heap_alloc_new W _) hb.size x5 (ob_keep h5 (al_below W _)) l5 (Nat.ne_of_lt (ob_lt h1)) n15 (Nat.ne_of_gt (ob_lt h5))

omit hD hP hC in
set_option maxRecDepth 100000 in
set_option maxHeartbeats 1000000 in
theorem tr101100 (W : World) (hS : GT g0 nb np sz W) (hb : Below w.heap.size w W) (x2 : Nat) (h2 : W.heap[x2]? = some (.map #[] 0)) (l2 : w.heap.size ≤ x2) (x3 : Nat) (h3 : W.heap[x3]? = some (.map #[] 0)) (l3 : w.heap.size ≤ x3) (n23 : x2 ≠ x3) :
    wpAnyH Tryz.prog .any tops Q (GT g0 nb np sz) 6 #[true, true, true, true, true, true, true, true, true, true, true, false, true, true, true, true, false, true, true, false, false, false, false] ⟨#[.pointer (some ⟨cb, 0, none⟩), .int .i64 res, .int .i64 bad, undef, undef, undef, .pointer none, .pointer (some ⟨g0, 0, none⟩), .pointer (some ⟨cb, 0, none⟩), .agg #[.int .i64 nb, .int .i64 np, .int .i64 sz], .pointer (some ⟨cb, 0, none⟩), .int .i64 res, .int .i64 bad, .agg #[.int .i64 nb, .int .i64 np, .int .i64 sz], .int .i64 bad, .int .i64 res, .int .i64 D, .pointer (some ⟨g0, 1, none⟩), .int .i64 np, .int .i64 P, .int .i64 Cp, undef, .map (some x2), .map (some x3), .pointer (some ⟨g0, 0, none⟩), .int .i64 nb, undef, .pointer (some ⟨g0, 0, none⟩), .int .i64 nb, undef, undef, undef], []⟩ W := by
  unfold tops
  refine wpAnyH_ready (rs := [11, 16, 19]) (by kernel_rfl) (by simp) ?_
  refine AllReadyH.cons rfl (fun K hK => ?_) (AllReadyH.cons rfl (fun K hK => ?_) (AllReadyH.cons rfl (fun K hK => ?_) AllReadyH.nil))
  · go_simp
    refine hK.out _ _ (hS.below (al_below W _)) (fun _ => ?_)
    try simp only [List.setIfInBounds_toArray, List.set]
    exact tr111100 hB hU hQ hN (W.alloc (.map #[] 0)) (hS.below (al_below W _)) (hb.trans ((al_below W _).mono hb.size)) W.heap.size (heap_alloc_new W _) hb.size x2 (ob_keep h2 (al_below W _)) l2 x3 (ob_keep h3 (al_below W _)) l3 (Nat.ne_of_gt (ob_lt h2)) (Nat.ne_of_gt (ob_lt h3)) n23
  · go_simp
    refine hK.out _ _ (hS.below (al_below W _)) (fun _ => ?_)
    try simp only [List.setIfInBounds_toArray, List.set]
    exact tr101110 hM1 hU hQ hN (W.alloc (.cells csB 4)) (hS.below (al_below W _)) (hb.trans ((al_below W _).mono hb.size)) x2 (ob_keep h2 (al_below W _)) l2 x3 (ob_keep h3 (al_below W _)) l3 W.heap.size (heap_alloc_new W _) hb.size n23 (Nat.ne_of_lt (ob_lt h2)) (Nat.ne_of_lt (ob_lt h3))
  · go_simp
    refine hK.out _ _ (hS.below (al_below W _)) (fun _ => ?_)
    try simp only [List.setIfInBounds_toArray, List.set]
    exact tr101101 hM1 hB hQ hN (W.alloc (.cells csU 87)) (hS.below (al_below W _)) (hb.trans ((al_below W _).mono hb.size)) x2 (ob_keep h2 (al_below W _)) l2 x3 (ob_keep h3 (al_below W _)) l3 W.heap.size (heap_alloc_new W _) hb.size n23 (Nat.ne_of_lt (ob_lt h2)) (Nat.ne_of_lt (ob_lt h3))

omit hD hP hC hB in
set_option maxRecDepth 100000 in
set_option maxHeartbeats 1000000 in
theorem tr101010 (W : World) (hS : GT g0 nb np sz W) (hb : Below w.heap.size w W) (x2 : Nat) (h2 : W.heap[x2]? = some (.map #[] 0)) (l2 : w.heap.size ≤ x2) (x4 : Nat) (h4 : W.heap[x4]? = some (.cells csB 4)) (l4 : w.heap.size ≤ x4) (n24 : x2 ≠ x4) :
    wpAnyH Tryz.prog .any tops Q (GT g0 nb np sz) 6 #[true, true, true, true, true, true, true, true, true, true, true, false, true, false, true, true, true, true, true, false, false, false, false] ⟨#[.pointer (some ⟨cb, 0, none⟩), .int .i64 res, .int .i64 bad, undef, undef, undef, .pointer none, .pointer (some ⟨g0, 0, none⟩), .pointer (some ⟨cb, 0, none⟩), .agg #[.int .i64 nb, .int .i64 np, .int .i64 sz], .pointer (some ⟨cb, 0, none⟩), .int .i64 res, .int .i64 bad, .agg #[.int .i64 nb, .int .i64 np, .int .i64 sz], .int .i64 bad, .int .i64 res, .int .i64 D, .pointer (some ⟨g0, 1, none⟩), .int .i64 np, .int .i64 P, .int .i64 Cp, undef, .map (some x2), undef, .pointer (some ⟨g0, 0, none⟩), .int .i64 nb, .slice (some ⟨x4, 0, none⟩) nb nb, .pointer (some ⟨g0, 0, none⟩), .int .i64 nb, undef, undef, undef], []⟩ W := by
  unfold tops
  refine wpAnyH_ready (rs := [11, 13, 19]) (by kernel_rfl) (by simp) ?_
  refine AllReadyH.cons rfl (fun K hK => ?_) (AllReadyH.cons rfl (fun K hK => ?_) (AllReadyH.cons rfl (fun K hK => ?_) AllReadyH.nil))
  · go_simp
    refine hK.out _ _ (hS.below (al_below W _)) (fun _ => ?_)
    try simp only [List.setIfInBounds_toArray, List.set]
    exact tr111010 hM1 hU hQ hN (W.alloc (.map #[] 0)) (hS.below (al_below W _)) (hb.trans ((al_below W _).mono hb.size)) W.heap.size (heap_alloc_new W _) hb.size x2 (ob_keep h2 (al_below W _)) l2 x4 (ob_keep h4 (al_below W _)) l4 (Nat.ne_of_gt (ob_lt h2)) (Nat.ne_of_gt (ob_lt h4)) n24
  · go_simp
    refine hK.out _ _ (hS.below (al_below W _)) (fun _ => ?_)
    try simp only [List.setIfInBounds_toArray, List.set]
    exact tr101110 hM1 hU hQ hN (W.alloc (.map #[] 0)) (hS.below (al_below W _)) (hb.trans ((al_below W _).mono hb.size)) x2 (ob_keep h2 (al_below W _)) l2 W.heap.size (heap_alloc_new W _) hb.size x4 (ob_keep h4 (al_below W _)) l4 (Nat.ne_of_lt (ob_lt h2)) n24 (Nat.ne_of_gt (ob_lt h4))
  · go_simp
    refine hK.out _ _ (hS.below (al_below W _)) (fun _ => ?_)
    try simp only [List.setIfInBounds_toArray, List.set]
    exact tr101011 hM1 hQ hN (W.alloc (.cells csU 87)) (hS.below (al_below W _)) (hb.trans ((al_below W _).mono hb.size)) x2 (ob_keep h2 (al_below W _)) l2 x4 (ob_keep h4 (al_below W _)) l4 W.heap.size (heap_alloc_new W _) hb.size n24 (Nat.ne_of_lt (ob_lt h2)) (Nat.ne_of_lt (ob_lt h4))

omit hD hP hC hU in
set_option maxRecDepth 100000 in
set_option maxHeartbeats 1000000 in
theorem tr101001 (W : World) (hS : GT g0 nb np sz W) (hb : Below w.heap.size w W) (x2 : Nat) (h2 : W.heap[x2]? = some (.map #[] 0)) (l2 : w.heap.size ≤ x2) (x5 : Nat) (h5 : W.heap[x5]? = some (.cells csU 87)) (l5 : w.heap.size ≤ x5) (n25 : x2 ≠ x5) :
    wpAnyH Tryz.prog .any tops Q (GT g0 nb np sz) 6 #[true, true, true, true, true, true, true, true, true, true, true, false, true, false, true, true, false, true, true, true, false, false, false] ⟨#[.pointer (some ⟨cb, 0, none⟩), .int .i64 res, .int .i64 bad, undef, undef, undef, .pointer none, .pointer (some ⟨g0, 0, none⟩), .pointer (some ⟨cb, 0, none⟩), .agg #[.int .i64 nb, .int .i64 np, .int .i64 sz], .pointer (some ⟨cb, 0, none⟩), .int .i64 res, .int .i64 bad, .agg #[.int .i64 nb, .int .i64 np, .int .i64 sz], .int .i64 bad, .int .i64 res, .int .i64 D, .pointer (some ⟨g0, 1, none⟩), .int .i64 np, .int .i64 P, .int .i64 Cp, undef, .map (some x2), undef, .pointer (some ⟨g0, 0, none⟩), .int .i64 nb, undef, .pointer (some ⟨g0, 0, none⟩), .int .i64 nb, .slice (some ⟨x5, 0, none⟩) nb nb, undef, undef], []⟩ W := by
  unfold tops
  refine wpAnyH_ready (rs := [11, 13, 16]) (by kernel_rfl) (by simp) ?_
  refine AllReadyH.cons rfl (fun K hK => ?_) (AllReadyH.cons rfl (fun K hK => ?_) (AllReadyH.cons rfl (fun K hK => ?_) AllReadyH.nil))
  · go_simp
    refine hK.out _ _ (hS.below (al_below W _)) (fun _ => ?_)
    try simp only [List.setIfInBounds_toArray, List.set]
    exact tr111001 hM1 hB hQ hN (W.alloc (.map #[] 0)) (hS.below (al_below W _)) (hb.trans ((al_below W _).mono hb.size)) W.heap.size (heap_alloc_new W _) hb.size x2 (ob_keep h2 (al_below W _)) l2 x5 (ob_keep h5 (al_below W _)) l5 (Nat.ne_of_gt (ob_lt h2)) (Nat.ne_of_gt (ob_lt h5)) n25
  · go_simp
    refine hK.out _ _ (hS.below (al_below W _)) (fun _ => ?_)
    try simp only [List.setIfInBounds_toArray, List.set]
    exact tr101101 hM1 hB hQ hN (W.alloc (.map #[] 0)) (hS.below (al_below W _)) (hb.trans ((al_below W _).mono hb.size)) x2 (ob_keep h2 (al_below W _)) l2 W.heap.size (heap_alloc_new W _) hb.size x5 (ob_keep h5 (al_below W _)) l5 (Nat.ne_of_lt (ob_lt h2)) n25 (Nat.ne_of_gt (ob_lt h5))
  · go_simp
    refine hK.out _ _ (hS.below (al_below W _)) (fun _ => ?_)
    try simp only [List.setIfInBounds_toArray, List.set]
    exact tr101011 hM1 hQ hN (W.alloc (.cells csB 4)) (hS.below (al_below W _)) (hb.trans ((al_below W _).mono hb.size)) x2 (ob_keep h2 (al_below W _)) l2 W.heap.size (heap_alloc_new W _) hb.size x5 (ob_keep h5 (al_below W _)) l5 (Nat.ne_of_lt (ob_lt h2)) n25 (Nat.ne_of_gt (ob_lt h5))

omit hD hP hC hB in
set_option maxRecDepth 100000 in
set_option maxHeartbeats 1000000 in
theorem tr100110 (W : World) (hS : GT g0 nb np sz W) (hb : Below w.heap.size w W) (x3 : Nat) (h3 : W.heap[x3]? = some (.map #[] 0)) (l3 : w.heap.size ≤ x3) (x4 : Nat) (h4 : W.heap[x4]? = some (.cells csB 4)) (l4 : w.heap.size ≤ x4) (n34 : x3 ≠ x4) :
    wpAnyH Tryz.prog .any tops Q (GT g0 nb np sz) 6 #[true, true, true, true, true, true, true, true, true, true, true, false, false, true, true, true, true, true, true, false, false, false, false] ⟨#[.pointer (some ⟨cb, 0, none⟩), .int .i64 res, .int .i64 bad, undef, undef, undef, .pointer none, .pointer (some ⟨g0, 0, none⟩), .pointer (some ⟨cb, 0, none⟩), .agg #[.int .i64 nb, .int .i64 np, .int .i64 sz], .pointer (some ⟨cb, 0, none⟩), .int .i64 res, .int .i64 bad, .agg #[.int .i64 nb, .int .i64 np, .int .i64 sz], .int .i64 bad, .int .i64 res, .int .i64 D, .pointer (some ⟨g0, 1, none⟩), .int .i64 np, .int .i64 P, .int .i64 Cp, undef, undef, .map (some x3), .pointer (some ⟨g0, 0, none⟩), .int .i64 nb, .slice (some ⟨x4, 0, none⟩) nb nb, .pointer (some ⟨g0, 0, none⟩), .int .i64 nb, undef, undef, undef], []⟩ W := by
  unfold tops
  refine wpAnyH_ready (rs := [11, 12, 19]) (by kernel_rfl) (by simp) ?_
  refine AllReadyH.cons rfl (fun K hK => ?_) (AllReadyH.cons rfl (fun K hK => ?_) (AllReadyH.cons rfl (fun K hK => ?_) AllReadyH.nil))
  · go_simp
    refine hK.out _ _ (hS.below (al_below W _)) (fun _ => ?_)
    try simp only [List.setIfInBounds_toArray, List.set]
    exact tr110110 hM1 hU hQ hN (W.alloc (.map #[] 0)) (hS.below (al_below W _)) (hb.trans ((al_below W _).mono hb.size)) W.heap.size (heap_alloc_new W _) hb.size x3 (ob_keep h3 (al_below W _)) l3 x4 (ob_keep h4 (al_below W _)) l4 (Nat.ne_of_gt (ob_lt h3)) (Nat.ne_of_gt (ob_lt h4)) n34
  · go_simp
    refine hK.out _ _ (hS.below (al_below W _)) (fun _ => ?_)
    try simp only [List.setIfInBounds_toArray, List.set]
    exact tr101110 hM1 hU hQ hN (W.alloc (.map #[] 0)) (hS.below (al_below W _)) (hb.trans ((al_below W _).mono hb.size)) W.heap.size (heap_alloc_new W _) hb.size x3 (ob_keep h3 (al_below W _)) l3 x4 (ob_keep h4 (al_below W _)) l4 (Nat.ne_of_gt (ob_lt h3)) (Nat.ne_of_gt (ob_lt h4)) n34
  · go_simp
    refine hK.out _ _ (hS.below (al_below W _)) (fun _ => ?_)
    try simp only [List.setIfInBounds_toArray, List.set]
    exact tr100111 hM1 hQ hN (W.alloc (.cells csU 87)) (hS.below (al_below W _)) (hb.trans ((al_below W _).mono hb.size)) x3 (ob_keep h3 (al_below W _)) l3 x4 (ob_keep h4 (al_below W _)) l4 W.heap.size (heap_alloc_new W _) hb.size n34 (Nat.ne_of_lt (ob_lt h3)) (Nat.ne_of_lt (ob_lt h4))

omit hD hP hC hU in
set_option maxRecDepth 100000 in
set_option maxHeartbeats 1000000 in
theorem tr100101 (W : World) (hS : GT g0 nb np sz W) (hb : Below w.heap.size w W) (x3 : Nat) (h3 : W.heap[x3]? = some (.map #[] 0)) (l3 : w.heap.size ≤ x3) (x5 : Nat) (h5 : W.heap[x5]? = some (.cells csU 87)) (l5 : w.heap.size ≤ x5) (n35 : x3 ≠ x5) :
    wpAnyH Tryz.prog .any tops Q (GT g0 nb np sz) 6 #[true, true, true, true, true, true, true, true, true, true, true, false, false, true, true, true, false, true, true, true, false, false, false] ⟨#[.pointer (some ⟨cb, 0, none⟩), .int .i64 res, .int .i64 bad, undef, undef, undef, .pointer none, .pointer (some ⟨g0, 0, none⟩), .pointer (some ⟨cb, 0, none⟩), .agg #[.int .i64 nb, .int .i64 np, .int .i64 sz], .pointer (some ⟨cb, 0, none⟩), .int .i64 res, .int .i64 bad, .agg #[.int .i64 nb, .int .i64 np, .int .i64 sz], .int .i64 bad, .int .i64 res, .int .i64 D, .pointer (some ⟨g0, 1, none⟩), .int .i64 np, .int .i64 P, .int .i64 Cp, undef, undef, .map (some x3), .pointer (some ⟨g0, 0, none⟩), .int .i64 nb, undef, .pointer (some ⟨g0, 0, none⟩), .int .i64 nb, .slice (some ⟨x5, 0, none⟩) nb nb, undef, undef], []⟩ W := by
  unfold tops
  refine wpAnyH_ready (rs := [11, 12, 16]) (by kernel_rfl) (by simp) ?_
  refine AllReadyH.cons rfl (fun K hK => ?_) (AllReadyH.cons rfl (fun K hK => ?_) (AllReadyH.cons rfl (fun K hK => ?_) AllReadyH.nil))
  · go_simp
    refine hK.out _ _ (hS.below (al_below W _)) (fun _ => ?_)
    try simp only [List.setIfInBounds_toArray, List.set]
    exact tr110101 hM1 hB hQ hN (W.alloc (.map #[] 0)) (hS.below (al_below W _)) (hb.trans ((al_below W _).mono hb.size)) W.heap.size (heap_alloc_new W _) hb.size x3 (ob_keep h3 (al_below W _)) l3 x5 (ob_keep h5 (al_below W _)) l5 (Nat.ne_of_gt (ob_lt h3)) (Nat.ne_of_gt (ob_lt h5)) n35
  · go_simp
    refine hK.out _ _ (hS.below (al_below W _)) (fun _ => ?_)
    try simp only [List.setIfInBounds_toArray, List.set]
    exact tr101101 hM1 hB hQ hN (W.alloc (.map #[] 0)) (hS.below (al_below W _)) (hb.trans ((al_below W _).mono hb.size)) W.heap.size (heap_alloc_new W _) hb.size x3 (ob_keep h3 (al_below W _)) l3 x5 (ob_keep h5 (al_below W _)) l5 (Nat.ne_of_gt (ob_lt h3)) (Nat.ne_of_gt (ob_lt h5)) n35
  · go_simp
    refine hK.out _ _ (hS.below (al_below W _)) (fun _ => ?_)
    try simp only [List.setIfInBounds_toArray, List.set]
    exact tr100111 hM1 hQ hN (W.alloc (.cells csB 4)) (hS.below (al_below W _)) (hb.trans ((al_below W _).mono hb.size)) x3 (ob_keep h3 (al_below W _)) l3 W.heap.size (heap_alloc_new W _) hb.size x5 (ob_keep h5 (al_below W _)) l5 (Nat.ne_of_lt (ob_lt h3)) n35 (Nat.ne_of_gt (ob_lt h5))

omit hD hP hC hB hU in
set_option maxRecDepth 100000 in
set_option maxHeartbeats 1000000 in
theorem tr100011 (W : World) (hS : GT g0 nb np sz W) (hb : Below w.heap.size w W) (x4 : Nat) (h4 : W.heap[x4]? = some (.cells csB 4)) (l4 : w.heap.size ≤ x4) (x5 : Nat) (h5 : W.heap[x5]? = some (.cells csU 87)) (l5 : w.heap.size ≤ x5) (n45 : x4 ≠ x5) :
    wpAnyH Tryz.prog .any tops Q (GT g0 nb np sz) 6 #[true, true, true, true, true, true, true, true, true, true, true, false, false, false, true, true, true, true, true, true, false, false, false] ⟨#[.pointer (some ⟨cb, 0, none⟩), .int .i64 res, .int .i64 bad, undef, undef, undef, .pointer none, .pointer (some ⟨g0, 0, none⟩), .pointer (some ⟨cb, 0, none⟩), .agg #[.int .i64 nb, .int .i64 np, .int .i64 sz], .pointer (some ⟨cb, 0, none⟩), .int .i64 res, .int .i64 bad, .agg #[.int .i64 nb, .int .i64 np, .int .i64 sz], .int .i64 bad, .int .i64 res, .int .i64 D, .pointer (some ⟨g0, 1, none⟩), .int .i64 np, .int .i64 P, .int .i64 Cp, undef, undef, undef, .pointer (some ⟨g0, 0, none⟩), .int .i64 nb, .slice (some ⟨x4, 0, none⟩) nb nb, .pointer (some ⟨g0, 0, none⟩), .int .i64 nb, .slice (some ⟨x5, 0, none⟩) nb nb, undef, undef], []⟩ W := by
  unfold tops
  refine wpAnyH_ready (rs := [11, 12, 13]) (by kernel_rfl) (by simp) ?_
  refine AllReadyH.cons rfl (fun K hK => ?_) (AllReadyH.cons rfl (fun K hK => ?_) (AllReadyH.cons rfl (fun K hK => ?_) AllReadyH.nil))
  · go_simp
    refine hK.out _ _ (hS.below (al_below W _)) (fun _ => ?_)
    try simp only [List.setIfInBounds_toArray, List.set]
    exact tr110011 hM1 hQ hN (W.alloc (.map #[] 0)) (hS.below (al_below W _)) (hb.trans ((al_below W _).mono hb.size)) W.heap.size (heap_alloc_new W _) hb.size x4 (ob_keep h4 (al_below W _)) l4 x5 (ob_keep h5 (al_below W _)) l5 (Nat.ne_of_gt (ob_lt h4)) (Nat.ne_of_gt (ob_lt h5)) n45
  · go_simp
    refine hK.out _ _ (hS.below (al_below W _)) (fun _ => ?_)
    try simp only [List.setIfInBounds_toArray, List.set]
    exact tr101011 hM1 hQ hN (W.alloc (.map #[] 0)) (hS.below (al_below W _)) (hb.trans ((al_below W _).mono hb.size)) W.heap.size (heap_alloc_new W _) hb.size x4 (ob_keep h4 (al_below W _)) l4 x5 (ob_keep h5 (al_below W _)) l5 (Nat.ne_of_gt (ob_lt h4)) (Nat.ne_of_gt (ob_lt h5)) n45
  · go_simp
    refine hK.out _ _ (hS.below (al_below W _)) (fun _ => ?_)
    try simp only [List.setIfInBounds_toArray, List.set]
    exact tr100111 hM1 hQ hN (W.alloc (.map #[] 0)) (hS.below (al_below W _)) (hb.trans ((al_below W _).mono hb.size)) W.heap.size (heap_alloc_new W _) hb.size x4 (ob_keep h4 (al_below W _)) l4 x5 (ob_keep h5 (al_below W _)) l5 (Nat.ne_of_gt (ob_lt h4)) (Nat.ne_of_gt (ob_lt h5)) n45

omit hM1 in
set_option maxRecDepth 100000 in
set_option maxHeartbeats 1000000 in
theorem tr011100 (W : World) (hS : GT g0 nb np sz W) (hb : Below w.heap.size w W) (x1 : Nat) (h1 : W.heap[x1]? = some (.map #[] 0)) (l1 : w.heap.size ≤ x1) (x2 : Nat) (h2 : W.heap[x2]? = some (.map #[] 0)) (l2 : w.heap.size ≤ x2) (x3 : Nat) (h3 : W.heap[x3]? = some (.map #[] 0)) (l3 : w.heap.size ≤ x3) (n12 : x1 ≠ x2) (n13 : x1 ≠ x3) (n23 : x2 ≠ x3) :
    wpAnyH Tryz.prog .any tops Q (GT g0 nb np sz) 8 #[true, true, true, true, true, true, false, true, true, false, false, true, true, true, true, true, false, true, true, false, false, false, false] ⟨#[.pointer (some ⟨cb, 0, none⟩), .int .i64 res, .int .i64 bad, undef, undef, undef, .pointer none, .pointer (some ⟨g0, 0, none⟩), .pointer (some ⟨cb, 0, none⟩), .agg #[.int .i64 nb, .int .i64 np, .int .i64 sz], .pointer (some ⟨cb, 0, none⟩), .int .i64 res, .int .i64 bad, .agg #[.int .i64 nb, .int .i64 np, .int .i64 sz], .int .i64 bad, .int .i64 res, undef, .pointer (some ⟨g0, 1, none⟩), .int .i64 np, undef, undef, .map (some x1), .map (some x2), .map (some x3), .pointer (some ⟨g0, 0, none⟩), .int .i64 nb, undef, .pointer (some ⟨g0, 0, none⟩), .int .i64 nb, undef, undef, undef], []⟩ W := by
  unfold tops
  refine wpAnyH_ready (rs := [6, 16, 19]) (by kernel_rfl) (by simp) ?_
  refine AllReadyH.cons rfl (fun K hK => ?_) (AllReadyH.cons rfl (fun K hK => ?_) (AllReadyH.cons rfl (fun K hK => ?_) AllReadyH.nil))
  · go_simp
    refine (hD W).mono ?_
    rintro e W1 ⟨rfl, hW⟩
    refine hK.out _ _ (hS.below hW) (fun _ => ?_)
    try simp only [List.setIfInBounds_toArray, List.set]
    refine wpAnyH_take (i := 9) (v := .int .i64 P) rfl (by kernel_rfl) (by kernel_rfl) (by kernel_rfl) (fun c a w h => hN c _ a _ w h) (Or.inl ⟨by kernel_rfl, ?_⟩) (hS.below hW) ?_
    · intro w' hSw
      go_simp
    refine wpAnyH_take (i := 10) (v := .int .i64 Cp) rfl (by kernel_rfl) (by kernel_rfl) (by kernel_rfl) (fun c a w h => hN c _ a _ w h) (Or.inl ⟨by kernel_rfl, ?_⟩) (hS.below hW) ?_
    · intro w' hSw
      go_simp
    try simp only [List.setIfInBounds_toArray, List.set]
    exact tr111100 hB hU hQ hN W1 (hS.below hW) (hb.trans (hW.mono hb.size)) x1 (ob_keep h1 hW) l1 x2 (ob_keep h2 hW) l2 x3 (ob_keep h3 hW) l3 n12 n13 n23
  · go_simp
    refine hK.out _ _ (hS.below (al_below W _)) (fun _ => ?_)
    try simp only [List.setIfInBounds_toArray, List.set]
    exact tr011110 hD hP hC hU hQ hN (W.alloc (.cells csB 4)) (hS.below (al_below W _)) (hb.trans ((al_below W _).mono hb.size)) x1 (ob_keep h1 (al_below W _)) l1 x2 (ob_keep h2 (al_below W _)) l2 x3 (ob_keep h3 (al_below W _)) l3 W.heap.size (heap_alloc_new W _) hb.size n12 n13 (Nat.ne_of_lt (ob_lt h1)) n23 (Nat.ne_of_lt (ob_lt h2)) (Nat.ne_of_lt (ob_lt h3))
  · go_simp
    refine hK.out _ _ (hS.below (al_below W _)) (fun _ => ?_)
    try simp only [List.setIfInBounds_toArray, List.set]
    exact tr011101 hD hP hC hB hQ hN (W.alloc (.cells csU 87)) (hS.below (al_below W _)) (hb.trans ((al_below W _).mono hb.size)) x1 (ob_keep h1 (al_below W _)) l1 x2 (ob_keep h2 (al_below W _)) l2 x3 (ob_keep h3 (al_below W _)) l3 W.heap.size (heap_alloc_new W _) hb.size n12 n13 (Nat.ne_of_lt (ob_lt h1)) n23 (Nat.ne_of_lt (ob_lt h2)) (Nat.ne_of_lt (ob_lt h3))

omit hB in
set_option maxRecDepth 100000 in
set_option maxHeartbeats 1000000 in
theorem tr011010 (W : World) (hS : GT g0 nb np sz W) (hb : Below w.heap.size w W) (x1 : Nat) (h1 : W.heap[x1]? = some (.map #[] 0)) (l1 : w.heap.size ≤ x1) (x2 : Nat) (h2 : W.heap[x2]? = some (.map #[] 0)) (l2 : w.heap.size ≤ x2) (x4 : Nat) (h4 : W.heap[x4]? = some (.cells csB 4)) (l4 : w.heap.size ≤ x4) (n12 : x1 ≠ x2) (n14 : x1 ≠ x4) (n24 : x2 ≠ x4) :
    wpAnyH Tryz.prog .any tops Q (GT g0 nb np sz) 8 #[true, true, true, true, true, true, false, true, true, false, false, true, true, false, true, true, true, true, true, false, false, false, false] ⟨#[.pointer (some ⟨cb, 0, none⟩), .int .i64 res, .int .i64 bad, undef, undef, undef, .pointer none, .pointer (some ⟨g0, 0, none⟩), .pointer (some ⟨cb, 0, none⟩), .agg #[.int .i64 nb, .int .i64 np, .int .i64 sz], .pointer (some ⟨cb, 0, none⟩), .int .i64 res, .int .i64 bad, .agg #[.int .i64 nb, .int .i64 np, .int .i64 sz], .int .i64 bad, .int .i64 res, undef, .pointer (some ⟨g0, 1, none⟩), .int .i64 np, undef, undef, .map (some x1), .map (some x2), undef, .pointer (some ⟨g0, 0, none⟩), .int .i64 nb, .slice (some ⟨x4, 0, none⟩) nb nb, .pointer (some ⟨g0, 0, none⟩), .int .i64 nb, undef, undef, undef], []⟩ W := by
  unfold tops
  refine wpAnyH_ready (rs := [6, 13, 19]) (by kernel_rfl) (by simp) ?_
  refine AllReadyH.cons rfl (fun K hK => ?_) (AllReadyH.cons rfl (fun K hK => ?_) (AllReadyH.cons rfl (fun K hK => ?_) AllReadyH.nil))
  · go_simp
    refine (hD W).mono ?_
    rintro e W1 ⟨rfl, hW⟩
    refine hK.out _ _ (hS.below hW) (fun _ => ?_)
    try simp only [List.setIfInBounds_toArray, List.set]
    refine wpAnyH_take (i := 9) (v := .int .i64 P) rfl (by kernel_rfl) (by kernel_rfl) (by kernel_rfl) (fun c a w h => hN c _ a _ w h) (Or.inl ⟨by kernel_rfl, ?_⟩) (hS.below hW) ?_
    · intro w' hSw
      go_simp
    refine wpAnyH_take (i := 10) (v := .int .i64 Cp) rfl (by kernel_rfl) (by kernel_rfl) (by kernel_rfl) (fun c a w h => hN c _ a _ w h) (Or.inl ⟨by kernel_rfl, ?_⟩) (hS.below hW) ?_
    · intro w' hSw
      go_simp
    try simp only [List.setIfInBounds_toArray, List.set]
    exact tr111010 hM1 hU hQ hN W1 (hS.below hW) (hb.trans (hW.mono hb.size)) x1 (ob_keep h1 hW) l1 x2 (ob_keep h2 hW) l2 x4 (ob_keep h4 hW) l4 n12 n14 n24
  · go_simp
    refine hK.out _ _ (hS.below (al_below W _)) (fun _ => ?_)
    try simp only [List.setIfInBounds_toArray, List.set]
    exact tr011110 hD hP hC hU hQ hN (W.alloc (.map #[] 0)) (hS.below (al_below W _)) (hb.trans ((al_below W _).mono hb.size)) x1 (ob_keep h1 (al_below W _)) l1 x2 (ob_keep h2 (al_below W _)) l2 W.heap.size (heap_alloc_new W _) hb.size x4 (ob_keep h4 (al_below W _)) l4 n12 (Nat.ne_of_lt (ob_lt h1)) n14 (Nat.ne_of_lt (ob_lt h2)) n24 (Nat.ne_of_gt (ob_lt h4))
  · go_simp
    refine hK.out _ _ (hS.below (al_below W _)) (fun _ => ?_)
    try simp only [List.setIfInBounds_toArray, List.set]
    exact tr011011 hD hP hC hM1 hQ hN (W.alloc (.cells csU 87)) (hS.below (al_below W _)) (hb.trans ((al_below W _).mono hb.size)) x1 (ob_keep h1 (al_below W _)) l1 x2 (ob_keep h2 (al_below W _)) l2 x4 (ob_keep h4 (al_below W _)) l4 W.heap.size (heap_alloc_new W _) hb.size n12 n14 (Nat.ne_of_lt (ob_lt h1)) n24 (Nat.ne_of_lt (ob_lt h2)) (Nat.ne_of_lt (ob_lt h4))

omit hU in
set_option maxRecDepth 100000 in
set_option maxHeartbeats 1000000 in
theorem tr011001 (W : World) (hS : GT g0 nb np sz W) (hb : Below w.heap.size w W) (x1 : Nat) (h1 : W.heap[x1]? = some (.map #[] 0)) (l1 : w.heap.size ≤ x1) (x2 : Nat) (h2 : W.heap[x2]? = some (.map #[] 0)) (l2 : w.heap.size ≤ x2) (x5 : Nat) (h5 : W.heap[x5]? = some (.cells csU 87)) (l5 : w.heap.size ≤ x5) (n12 : x1 ≠ x2) (n15 : x1 ≠ x5) (n25 : x2 ≠ x5) :
    wpAnyH Tryz.prog .any tops Q (GT g0 nb np sz) 8 #[true, true, true, true, true, true, false, true, true, false, false, true, true, false, true, true, false, true, true, true, false, false, false] ⟨#[.pointer (some ⟨cb, 0, none⟩), .int .i64 res, .int .i64 bad, undef, undef, undef, .pointer none, .pointer (some ⟨g0, 0, none⟩), .pointer (some ⟨cb, 0, none⟩), .agg #[.int .i64 nb, .int .i64 np, .int .i64 sz], .pointer (some ⟨cb, 0, none⟩), .int .i64 res, .int .i64 bad, .agg #[.int .i64 nb, .int .i64 np, .int .i64 sz], .int .i64 bad, .int .i64 res, undef, .pointer (some ⟨g0, 1, none⟩), .int .i64 np, undef, undef, .map (some x1), .map (some x2), undef, .pointer (some ⟨g0, 0, none⟩), .int .i64 nb, undef, .pointer (some ⟨g0, 0, none⟩), .int .i64 nb, .slice (some ⟨x5, 0, none⟩) nb nb, undef, undef], []⟩ W := by
  unfold tops
  refine wpAnyH_ready (rs := [6, 13, 16]) (by kernel_rfl) (by simp) ?_
  refine AllReadyH.cons rfl (fun K hK => ?_) (AllReadyH.cons rfl (fun K hK => ?_) (AllReadyH.cons rfl (fun K hK => ?_) AllReadyH.nil))
  · go_simp
    refine (hD W).mono ?_
    rintro e W1 ⟨rfl, hW⟩
    refine hK.out _ _ (hS.below hW) (fun _ => ?_)
    try simp only [List.setIfInBounds_toArray, List.set]
    refine wpAnyH_take (i := 9) (v := .int .i64 P) rfl (by kernel_rfl) (by kernel_rfl) (by kernel_rfl) (fun c a w h => hN c _ a _ w h) (Or.inl ⟨by kernel_rfl, ?_⟩) (hS.below hW) ?_
    · intro w' hSw
      go_simp
    refine wpAnyH_take (i := 10) (v := .int .i64 Cp) rfl (by kernel_rfl) (by kernel_rfl) (by kernel_rfl) (fun c a w h => hN c _ a _ w h) (Or.inl ⟨by kernel_rfl, ?_⟩) (hS.below hW) ?_
    · intro w' hSw
      go_simp
    try simp only [List.setIfInBounds_toArray, List.set]
    exact tr111001 hM1 hB hQ hN W1 (hS.below hW) (hb.trans (hW.mono hb.size)) x1 (ob_keep h1 hW) l1 x2 (ob_keep h2 hW) l2 x5 (ob_keep h5 hW) l5 n12 n15 n25
  · go_simp
    refine hK.out _ _ (hS.below (al_below W _)) (fun _ => ?_)
    try simp only [List.setIfInBounds_toArray, List.set]
    exact tr011101 hD hP hC hB hQ hN (W.alloc (.map #[] 0)) (hS.below (al_below W _)) (hb.trans ((al_below W _).mono hb.size)) x1 (ob_keep h1 (al_below W _)) l1 x2 (ob_keep h2 (al_below W _)) l2 W.heap.size (heap_alloc_new W _) hb.size x5 (ob_keep h5 (al_below W _)) l5 n12 (Nat.ne_of_lt (ob_lt h1)) n15 (Nat.ne_of_lt (ob_lt h2)) n25 (Nat.ne_of_gt (ob_lt h5))
  · go_simp
    refine hK.out _ _ (hS.below (al_below W _)) (fun _ => ?_)
    try simp only [List.setIfInBounds_toArray, List.set]
    exact tr011011 hD hP hC hM1 hQ hN (W.alloc (.cells csB 4)) (hS.below (al_below W _)) (hb.trans ((al_below W _).mono hb.size)) x1 (ob_keep h1 (al_below W _)) l1 x2 (ob_keep h2 (al_below W _)) l2 W.heap.size (heap_alloc_new W _) hb.size x5 (ob_keep h5 (al_below W _)) l5 n12 (Nat.ne_of_lt (ob_lt h1)) n15 (Nat.ne_of_lt (ob_lt h2)) n25 (Nat.ne_of_gt (ob_lt h5))

omit hB in
set_option maxRecDepth 100000 in
set_option maxHeartbeats 1000000 in
theorem tr010110 (W : World) (hS : GT g0 nb np sz W) (hb : Below w.heap.size w W) (x1 : Nat) (h1 : W.heap[x1]? = some (.map #[] 0)) (l1 : w.heap.size ≤ x1) (x3 : Nat) (h3 : W.heap[x3]? = some (.map #[] 0)) (l3 : w.heap.size ≤ x3) (x4 : Nat) (h4 : W.heap[x4]? = some (.cells csB 4)) (l4 : w.heap.size ≤ x4) (n13 : x1 ≠ x3) (n14 : x1 ≠ x4) (n34 : x3 ≠ x4) :
    wpAnyH Tryz.prog .any tops Q (GT g0 nb np sz) 8 #[true, true, true, true, true, true, false, true, true, false, false, true, false, true, true, true, true, true, true, false, false, false, false] ⟨#[.pointer (some ⟨cb, 0, none⟩), .int .i64 res, .int .i64 bad, undef, undef, undef, .pointer none, .pointer (some ⟨g0, 0, none⟩), .pointer (some ⟨cb, 0, none⟩), .agg #[.int .i64 nb, .int .i64 np, .int .i64 sz], .pointer (some ⟨cb, 0, none⟩), .int .i64 res, .int .i64 bad, .agg #[.int .i64 nb, .int .i64 np, .int .i64 sz], .int .i64 bad, .int .i64 res, undef, .pointer (some ⟨g0, 1, none⟩), .int .i64 np, undef, undef, .map (some x1), undef, .map (some x3), .pointer (some ⟨g0, 0, none⟩), .int .i64 nb, .slice (some ⟨x4, 0, none⟩) nb nb, .pointer (some ⟨g0, 0, none⟩), .int .i64 nb, undef, undef, undef], []⟩ W := by
  unfold tops
  refine wpAnyH_ready (rs := [6, 12, 19]) (by kernel_rfl) (by simp) ?_
  refine AllReadyH.cons rfl (fun K hK => ?_) (AllReadyH.cons rfl (fun K hK => ?_) (AllReadyH.cons rfl (fun K hK => ?_) AllReadyH.nil))
  · go_simp
    refine (hD W).mono ?_
    rintro e W1 ⟨rfl, hW⟩
    refine hK.out _ _ (hS.below hW) (fun _ => ?_)
    try simp only [List.setIfInBounds_toArray, List.set]
    refine wpAnyH_take (i := 9) (v := .int .i64 P) rfl (by kernel_rfl) (by kernel_rfl) (by kernel_rfl) (fun c a w h => hN c _ a _ w h) (Or.inl ⟨by kernel_rfl, ?_⟩) (hS.below hW) ?_
    · intro w' hSw
      go_simp
    refine wpAnyH_take (i := 10) (v := .int .i64 Cp) rfl (by kernel_rfl) (by kernel_rfl) (by kernel_rfl) (fun c a w h => hN c _ a _ w h) (Or.inl ⟨by kernel_rfl, ?_⟩) (hS.below hW) ?_
    · intro w' hSw
      go_simp
    try simp only [List.setIfInBounds_toArray, List.set]
    exact tr110110 hM1 hU hQ hN W1 (hS.below hW) (hb.trans (hW.mono hb.size)) x1 (ob_keep h1 hW) l1 x3 (ob_keep h3 hW) l3 x4 (ob_keep h4 hW) l4 n13 n14 n34
  · go_simp
    refine hK.out _ _ (hS.below (al_below W _)) (fun _ => ?_)
    try simp only [List.setIfInBounds_toArray, List.set]
    exact tr011110 hD hP hC hU hQ hN (W.alloc (.map #[] 0)) (hS.below (al_below W _)) (hb.trans ((al_below W _).mono hb.size)) x1 (ob_keep h1 (al_below W _)) l1 W.heap.size (heap_alloc_new W _) hb.size x3 (ob_keep h3 (al_below W _)) l3 x4 (ob_keep h4 (al_below W _)) l4 (Nat.ne_of_lt (ob_lt h1)) n13 n14 (Nat.ne_of_gt (ob_lt h3)) (Nat.ne_of_gt (ob_lt h4)) n34
  · go_simp
    refine hK.out _ _ (hS.below (al_below W _)) (fun _ => ?_)
    try simp only [List.setIfInBounds_toArray, List.set]
    exact tr010111 hD hP hC hM1 hQ hN (W.alloc (.cells csU 87)) (hS.below (al_below W _)) (hb.trans ((al_below W _).mono hb.size)) x1 (ob_keep h1 (al_below W _)) l1 x3 (ob_keep h3 (al_below W _)) l3 x4 (ob_keep h4 (al_below W _)) l4 W.heap.size (heap_alloc_new W _) hb.size n13 n14 (Nat.ne_of_lt (ob_lt h1)) n34 (Nat.ne_of_lt (ob_lt h3)) (Nat.ne_of_lt (ob_lt h4))

omit hU in
set_option maxRecDepth 100000 in
set_option maxHeartbeats 1000000 in
theorem tr010101 (W : World) (hS : GT g0 nb np sz W) (hb : Below w.heap.size w W) (x1 : Nat) (h1 : W.heap[x1]? = some (.map #[] 0)) (l1 : w.heap.size ≤ x1) (x3 : Nat) (h3 : W.heap[x3]? = some (.map #[] 0)) (l3 : w.heap.size ≤ x3) (x5 : Nat) (h5 : W.heap[x5]? = some (.cells csU 87)) (l5 : w.heap.size ≤ x5) (n13 : x1 ≠ x3) (n15 : x1 ≠ x5) (n35 : x3 ≠ x5) :
    wpAnyH Tryz.prog .any tops Q (GT g0 nb np sz) 8 #[true, true, true, true, true, true, false, true, true, false, false, true, false, true, true, true, false, true, true, true, false, false, false] ⟨#[.pointer (some ⟨cb, 0, none⟩), .int .i64 res, .int .i64 bad, undef, undef, undef, .pointer none, .pointer (some ⟨g0, 0, none⟩), .pointer (some ⟨cb, 0, none⟩), .agg #[.int .i64 nb, .int .i64 np, .int .i64 sz], .pointer (some ⟨cb, 0, none⟩), .int .i64 res, .int .i64 bad, .agg #[.int .i64 nb, .int .i64 np, .int .i64 sz], .int .i64 bad, .int .i64 res, undef, .pointer (some ⟨g0, 1, none⟩), .int .i64 np, undef, undef, .map (some x1), undef, .map (some x3), .pointer (some ⟨g0, 0, none⟩), .int .i64 nb, undef, .pointer (some ⟨g0, 0, none⟩), .int .i64 nb, .slice (some ⟨x5, 0, none⟩) nb nb, undef, undef], []⟩ W := by
  unfold tops
  refine wpAnyH_ready (rs := [6, 12, 16]) (by kernel_rfl) (by simp) ?_
  refine AllReadyH.cons rfl (fun K hK => ?_) (AllReadyH.cons rfl (fun K hK => ?_) (AllReadyH.cons rfl (fun K hK => ?_) AllReadyH.nil))
  · go_simp
    refine (hD W).mono ?_
    rintro e W1 ⟨rfl, hW⟩
    refine hK.out _ _ (hS.below hW) (fun _ => ?_)
    try simp only [List.setIfInBounds_toArray, List.set]
    refine wpAnyH_take (i := 9) (v := .int .i64 P) rfl (by kernel_rfl) (by kernel_rfl) (by kernel_rfl) (fun c a w h => hN c _ a _ w h) (Or.inl ⟨by kernel_rfl, ?_⟩) (hS.below hW) ?_
    · intro w' hSw
      go_simp
    refine wpAnyH_take (i := 10) (v := .int .i64 Cp) rfl (by kernel_rfl) (by kernel_rfl) (by kernel_rfl) (fun c a w h => hN c _ a _ w h) (Or.inl ⟨by kernel_rfl, ?_⟩) (hS.below hW) ?_
    · intro w' hSw
      go_simp
    try simp only [List.setIfInBounds_toArray, List.set]
    exact tr110101 hM1 hB hQ hN W1 (hS.below hW) (hb.trans (hW.mono hb.size)) x1 (ob_keep h1 hW) l1 x3 (ob_keep h3 hW) l3 x5 (ob_keep h5 hW) l5 n13 n15 n35
  · go_simp
    refine hK.out _ _ (hS.below (al_below W _)) (fun _ => ?_)
    try simp only [List.setIfInBounds_toArray, List.set]
    exact tr011101 hD hP hC hB hQ hN (W.alloc (.map #[] 0)) (hS.below (al_below W _)) (hb.trans ((al_below W _).mono hb.size)) x1 (ob_keep h1 (al_below W _)) l1 W.heap.size (heap_alloc_new W _) hb.size x3 (ob_keep h3 (al_below W _)) l3 x5 (ob_keep h5 (al_below W _)) l5 (Nat.ne_of_lt (ob_lt h1)) n13 n15 (Nat.ne_of_gt (ob_lt h3)) (Nat.ne_of_gt (ob_lt h5)) n35
  · go_simp
    refine hK.out _ _ (hS.below (al_below W _)) (fun _ => ?_)
    try simp only [List.setIfInBounds_toArray, List.set]
    exact tr010111 hD hP hC hM1 hQ hN (W.alloc (.cells csB 4)) (hS.below (al_below W _)) (hb.trans ((al_below W _).mono hb.size)) x1 (ob_keep h1 (al_below W _)) l1 x3 (ob_keep h3 (al_below W _)) l3 W.heap.size (heap_alloc_new W _) hb.size x5 (ob_keep h5 (al_below W _)) l5 n13 (Nat.ne_of_lt (ob_lt h1)) n15 (Nat.ne_of_lt (ob_lt h3)) n35 (Nat.ne_of_gt (ob_lt h5))

omit hB hU in
set_option maxRecDepth 100000 in
set_option maxHeartbeats 1000000 in
theorem tr010011 (W : World) (hS : GT g0 nb np sz W) (hb : Below w.heap.size w W) (x1 : Nat) (h1 : W.heap[x1]? = some (.map #[] 0)) (l1 : w.heap.size ≤ x1) (x4 : Nat) (h4 : W.heap[x4]? = some (.cells csB 4)) (l4 : w.heap.size ≤ x4) (x5 : Nat) (h5 : W.heap[x5]? = some (.cells csU 87)) (l5 : w.heap.size ≤ x5) (n14 : x1 ≠ x4) (n15 : x1 ≠ x5) (n45 : x4 ≠ x5) :
    wpAnyH Tryz.prog .any tops Q (GT g0 nb np sz) 8 #[true, true, true, true, true, true, false, true, true, false, false, true, false, false, true, true, true, true, true, true, false, false, false] ⟨#[.pointer (some ⟨cb, 0, none⟩), .int .i64 res, .int .i64 bad, undef, undef, undef, .pointer none, .pointer (some ⟨g0, 0, none⟩), .pointer (some ⟨cb, 0, none⟩), .agg #[.int .i64 nb, .int .i64 np, .int .i64 sz], .pointer (some ⟨cb, 0, none⟩), .int .i64 res, .int .i64 bad, .agg #[.int .i64 nb, .int .i64 np, .int .i64 sz], .int .i64 bad, .int .i64 res, undef, .pointer (some ⟨g0, 1, none⟩), .int .i64 np, undef, undef, .map (some x1), undef, undef, .pointer (some ⟨g0, 0, none⟩), .int .i64 nb, .slice (some ⟨x4, 0, none⟩) nb nb, .pointer (some ⟨g0, 0, none⟩), .int .i64 nb, .slice (some ⟨x5, 0, none⟩) nb nb, undef, undef], []⟩ W := by
  unfold tops
  refine wpAnyH_ready (rs := [6, 12, 13]) (by kernel_rfl) (by simp) ?_
  refine AllReadyH.cons rfl (fun K hK => ?_) (AllReadyH.cons rfl (fun K hK => ?_) (AllReadyH.cons rfl (fun K hK => ?_) AllReadyH.nil))
  · go_simp
    refine (hD W).mono ?_
    rintro e W1 ⟨rfl, hW⟩
    refine hK.out _ _ (hS.below hW) (fun _ => ?_)
    try simp only [List.setIfInBounds_toArray, List.set]
    refine wpAnyH_take (i := 9) (v := .int .i64 P) rfl (by kernel_rfl) (by kernel_rfl) (by kernel_rfl) (fun c a w h => hN c _ a _ w h) (Or.inl ⟨by kernel_rfl, ?_⟩) (hS.below hW) ?_
    · intro w' hSw
      go_simp
    refine wpAnyH_take (i := 10) (v := .int .i64 Cp) rfl (by kernel_rfl) (by kernel_rfl) (by kernel_rfl) (fun c a w h => hN c _ a _ w h) (Or.inl ⟨by kernel_rfl, ?_⟩) (hS.below hW) ?_
    · intro w' hSw
      go_simp
    try simp only [List.setIfInBounds_toArray, List.set]
    exact tr110011 hM1 hQ hN W1 (hS.below hW) (hb.trans (hW.mono hb.size)) x1 (ob_keep h1 hW) l1 x4 (ob_keep h4 hW) l4 x5 (ob_keep h5 hW) l5 n14 n15 n45
  · go_simp
    refine hK.out _ _ (hS.below (al_below W _)) (fun _ => ?_)
    try simp only [List.setIfInBounds_toArray, List.set]
    exact tr011011 hD hP hC hM1 hQ hN (W.alloc (.map #[] 0)) (hS.below (al_below W _)) (hb.trans ((al_below W _).mono hb.size)) x1 (ob_keep h1 (al_below W _)) l1 W.heap.size (heap_alloc_new W _) hb.size x4 (ob_keep h4 (al_below W _)) l4 x5 (ob_keep h5 (al_below W _)) l5 (Nat.ne_of_lt (ob_lt h1)) n14 n15 (Nat.ne_of_gt (ob_lt h4)) (Nat.ne_of_gt (ob_lt h5)) n45
  · go_simp
    refine hK.out _ _ (hS.below (al_below W _)) (fun _ => ?_)
    try simp only [List.setIfInBounds_toArray, List.set]
    exact tr010111 hD hP hC hM1 hQ hN (W.alloc (.map #[] 0)) (hS.below (al_below W _)) (hb.trans ((al_below W _).mono hb.size)) x1 (ob_keep h1 (al_below W _)) l1 W.heap.size (heap_alloc_new W _) hb.size x4 (ob_keep h4 (al_below W _)) l4 x5 (ob_keep h5 (al_below W _)) l5 (Nat.ne_of_lt (ob_lt h1)) n14 n15 (Nat.ne_of_gt (ob_lt h4)) (Nat.ne_of_gt (ob_lt h5)) n45

omit hB in
set_option maxRecDepth 100000 in
set_option maxHeartbeats 1000000 in
theorem tr001110 (W : World) (hS : GT g0 nb np sz W) (hb : Below w.heap.size w W) (x2 : Nat) (h2 : W.heap[x2]? = some (.map #[] 0)) (l2 : w.heap.size ≤ x2) (x3 : Nat) (h3 : W.heap[x3]? = some (.map #[] 0)) (l3 : w.heap.size ≤ x3) (x4 : Nat) (h4 : W.heap[x4]? = some (.cells csB 4)) (l4 : w.heap.size ≤ x4) (n23 : x2 ≠ x3) (n24 : x2 ≠ x4) (n34 : x3 ≠ x4) :
    wpAnyH Tryz.prog .any tops Q (GT g0 nb np sz) 8 #[true, true, true, true, true, true, false, true, true, false, false, false, true, true, true, true, true, true, true, false, false, false, false] ⟨#[.pointer (some ⟨cb, 0, none⟩), .int .i64 res, .int .i64 bad, undef, undef, undef, .pointer none, .pointer (some ⟨g0, 0, none⟩), .pointer (some ⟨cb, 0, none⟩), .agg #[.int .i64 nb, .int .i64 np, .int .i64 sz], .pointer (some ⟨cb, 0, none⟩), .int .i64 res, .int .i64 bad, .agg #[.int .i64 nb, .int .i64 np, .int .i64 sz], .int .i64 bad, .int .i64 res, undef, .pointer (some ⟨g0, 1, none⟩), .int .i64 np, undef, undef, undef, .map (some x2), .map (some x3), .pointer (some ⟨g0, 0, none⟩), .int .i64 nb, .slice (some ⟨x4, 0, none⟩) nb nb, .pointer (some ⟨g0, 0, none⟩), .int .i64 nb, undef, undef, undef], []⟩ W := by
  unfold tops
  refine wpAnyH_ready (rs := [6, 11, 19]) (by kernel_rfl) (by simp) ?_
  refine AllReadyH.cons rfl (fun K hK => ?_) (AllReadyH.cons rfl (fun K hK => ?_) (AllReadyH.cons rfl (fun K hK => ?_) AllReadyH.nil))
  · go_simp
    refine (hD W).mono ?_
    rintro e W1 ⟨rfl, hW⟩
    refine hK.out _ _ (hS.below hW) (fun _ => ?_)
    try simp only [List.setIfInBounds_toArray, List.set]
    refine wpAnyH_take (i := 9) (v := .int .i64 P) rfl (by kernel_rfl) (by kernel_rfl) (by kernel_rfl) (fun c a w h => hN c _ a _ w h) (Or.inl ⟨by kernel_rfl, ?_⟩) (hS.below hW) ?_
    · intro w' hSw
      go_simp
    refine wpAnyH_take (i := 10) (v := .int .i64 Cp) rfl (by kernel_rfl) (by kernel_rfl) (by kernel_rfl) (fun c a w h => hN c _ a _ w h) (Or.inl ⟨by kernel_rfl, ?_⟩) (hS.below hW) ?_
    · intro w' hSw
      go_simp
    try simp only [List.setIfInBounds_toArray, List.set]
    exact tr101110 hM1 hU hQ hN W1 (hS.below hW) (hb.trans (hW.mono hb.size)) x2 (ob_keep h2 hW) l2 x3 (ob_keep h3 hW) l3 x4 (ob_keep h4 hW) l4 n23 n24 n34
  · go_simp
    refine hK.out _ _ (hS.below (al_below W _)) (fun _ => ?_)
    try simp only [List.setIfInBounds_toArray, List.set]
    exact tr011110 hD hP hC hU hQ hN (W.alloc (.map #[] 0)) (hS.below (al_below W _)) (hb.trans ((al_below W _).mono hb.size)) W.heap.size (heap_alloc_new W _) hb.size x2 (ob_keep h2 (al_below W _)) l2 x3 (ob_keep h3 (al_below W _)) l3 x4 (ob_keep h4 (al_below W _)) l4 (Nat.ne_of_gt (ob_lt h2)) (Nat.ne_of_gt (ob_lt h3)) (Nat.ne_of_gt (ob_lt h4)) n23 n24 n34
  · go_simp
    refine hK.out _ _ (hS.below (al_below W _)) (fun _ => ?_)
    try simp only [List.setIfInBounds_toArray, List.set]
    exact tr001111 hD hP hC hM1 hQ hN (W.alloc (.cells csU 87)) (hS.below (al_below W _)) (hb.trans ((al_below W _).mono hb.size)) x2 (ob_keep h2 (al_below W _)) l2 x3 (ob_keep h3 (al_below W _)) l3 x4 (ob_keep h4 (al_below W _)) l4 W.heap.size (heap_alloc_new W _) hb.size n23 n24 (Nat.ne_of_lt (ob_lt h2)) n34 (Nat.ne_of_lt (ob_lt h3)) (Nat.ne_of_lt (ob_lt h4))

omit hU in
set_option maxRecDepth 100000 in
set_option maxHeartbeats 1000000 in
theorem tr001101 (W : World) (hS : GT g0 nb np sz W) (hb : Below w.heap.size w W) (x2 : Nat) (h2 : W.heap[x2]? = some (.map #[] 0)) (l2 : w.heap.size ≤ x2) (x3 : Nat) (h3 : W.heap[x3]? = some (.map #[] 0)) (l3 : w.heap.size ≤ x3) (x5 : Nat) (h5 : W.heap[x5]? = some (.cells csU 87)) (l5 : w.heap.size ≤ x5) (n23 : x2 ≠ x3) (n25 : x2 ≠ x5) (n35 : x3 ≠ x5) :
    wpAnyH Tryz.prog .any tops Q (GT g0 nb np sz) 8 #[true, true, true, true, true, true, false, true, true, false, false, false, true, true, true, true, false, true, true, true, false, false, false] ⟨#[.pointer (some ⟨cb, 0, none⟩), .int .i64 res, .int .i64 bad, undef, undef, undef, .pointer none, .pointer (some ⟨g0, 0, none⟩), .pointer (some ⟨cb, 0, none⟩), .agg #[.int .i64 nb, .int .i64 np, .int .i64 sz], .pointer (some ⟨cb, 0, none⟩), .int .i64 res, .int .i64 bad, .agg #[.int .i64 nb, .int .i64 np, .int .i64 sz], .int .i64 bad, .int .i64 res, undef, .pointer (some ⟨g0, 1, none⟩), .int .i64 np, undef, undef, undef, .map (some x2), .map (some x3), .pointer (some ⟨g0, 0, none⟩), .int .i64 nb, undef, .pointer (some ⟨g0, 0, none⟩), .int .i64 nb, .slice (some ⟨x5, 0, none⟩) nb nb, undef, undef], []⟩ W := by
  unfold tops
  refine wpAnyH_ready (rs := [6, 11, 16]) (by kernel_rfl) (by simp) ?_
  refine AllReadyH.cons rfl (fun K hK => ?_) (AllReadyH.cons rfl (fun K hK => ?_) (AllReadyH.cons rfl (fun K hK => ?_) AllReadyH.nil))
  · go_simp
    refine (hD W).mono ?_
    rintro e W1 ⟨rfl, hW⟩
    refine hK.out _ _ (hS.below hW) (fun _ => ?_)
    try simp only [List.setIfInBounds_toArray, List.set]
    refine wpAnyH_take (i := 9) (v := .int .i64 P) rfl (by kernel_rfl) (by kernel_rfl) (by kernel_rfl) (fun c a w h => hN c _ a _ w h) (Or.inl ⟨by kernel_rfl, ?_⟩) (hS.below hW) ?_
    · intro w' hSw
      go_simp
    refine wpAnyH_take (i := 10) (v := .int .i64 Cp) rfl (by kernel_rfl) (by kernel_rfl) (by kernel_rfl) (fun c a w h => hN c _ a _ w h) (Or.inl ⟨by kernel_rfl, ?_⟩) (hS.below hW) ?_
    · intro w' hSw
      go_simp
    try simp only [List.setIfInBounds_toArray, List.set]
    exact tr101101 hM1 hB hQ hN W1 (hS.below hW) (hb.trans (hW.mono hb.size)) x2 (ob_keep h2 hW) l2 x3 (ob_keep h3 hW) l3 x5 (ob_keep h5 hW) l5 n23 n25 n35
  · go_simp
    refine hK.out _ _ (hS.below (al_below W _)) (fun _ => ?_)
    try simp only [List.setIfInBounds_toArray, List.set]
    exact tr011101 hD hP hC hB hQ hN (W.alloc (.map #[] 0)) (hS.below (al_below W _)) (hb.trans ((al_below W _).mono hb.size)) W.heap.size (heap_alloc_new W _) hb.size x2 (ob_keep h2 (al_below W _)) l2 x3 (ob_keep h3 (al_below W _)) l3 x5 (ob_keep h5 (al_below W _)) l5 (Nat.ne_of_gt (ob_lt h2)) (Nat.ne_of_gt (ob_lt h3)) (Nat.ne_of_gt (ob_lt h5)) n23 n25 n35
  · go_simp
    refine hK.out _ _ (hS.below (al_below W _)) (fun _ => ?_)
    try simp only [List.setIfInBounds_toArray, List.set]
    exact tr001111 hD hP hC hM1 hQ hN (W.alloc (.cells csB 4)) (hS.below (al_below W _)) (hb.trans ((al_below W _).mono hb.size)) x2 (ob_keep h2 (al_below W _)) l2 x3 (ob_keep h3 (al_below W _)) l3 W.heap.size (heap_alloc_new W _) hb.size x5 (ob_keep h5 (al_below W _)) l5 n23 (Nat.ne_of_lt (ob_lt h2)) n25 (Nat.ne_of_lt (ob_lt h3)) n35 (Nat.ne_of_gt (ob_lt h5))

omit hB hU in
set_option maxRecDepth 100000 in
set_option maxHeartbeats 1000000 in
theorem tr001011 (W : World) (hS : GT g0 nb np sz W) (hb : Below w.heap.size w W) (x2 : Nat) (h2 : W.heap[x2]? = some (.map #[] 0)) (l2 : w.heap.size ≤ x2) (x4 : Nat) (h4 : W.heap[x4]? = some (.cells csB 4)) (l4 : w.heap.size ≤ x4) (x5 : Nat) (h5 : W.heap[x5]? = some (.cells csU 87)) (l5 : w.heap.size ≤ x5) (n24 : x2 ≠ x4) (n25 : x2 ≠ x5) (n45 : x4 ≠ x5) :
    wpAnyH Tryz.prog .any tops Q (GT g0 nb np sz) 8 #[true, true, true, true, true, true, false, true, true, false, false, false, true, false, true, true, true, true, true, true, false, false, false] ⟨#[.pointer (some ⟨cb, 0, none⟩), .int .i64 res, .int .i64 bad, undef, undef, undef, .pointer none, .pointer (some ⟨g0, 0, none⟩), .pointer (some ⟨cb, 0, none⟩), .agg #[.int .i64 nb, .int .i64 np, .int .i64 sz], .pointer (some ⟨cb, 0, none⟩), .int .i64 res, .int .i64 bad, .agg #[.int .i64 nb, .int .i64 np, .int .i64 sz], .int .i64 bad, .int .i64 res, undef, .pointer (some ⟨g0, 1, none⟩), .int .i64 np, undef, undef, undef, .map (some x2), undef, .pointer (some ⟨g0, 0, none⟩), .int .i64 nb, .slice (some ⟨x4, 0, none⟩) nb nb, .pointer (some ⟨g0, 0, none⟩), .int .i64 nb, .slice (some ⟨x5, 0, none⟩) nb nb, undef, undef], []⟩ W := by
  unfold tops
  refine wpAnyH_ready (rs := [6, 11, 13]) (by kernel_rfl) (by simp) ?_
  refine AllReadyH.cons rfl (fun K hK => ?_) (AllReadyH.cons rfl (fun K hK => ?_) (AllReadyH.cons rfl (fun K hK => ?_) AllReadyH.nil))
  · go_simp
    refine (hD W).mono ?_
    rintro e W1 ⟨rfl, hW⟩
    refine hK.out _ _ (hS.below hW) (fun _ => ?_)
    try simp only [List.setIfInBounds_toArray, List.set]
    refine wpAnyH_take (i := 9) (v := .int .i64 P) rfl (by kernel_rfl) (by kernel_rfl) (by kernel_rfl) (fun c a w h => hN c _ a _ w h) (Or.inl ⟨by kernel_rfl, ?_⟩) (hS.below hW) ?_
    · intro w' hSw
      go_simp
    refine wpAnyH_take (i := 10) (v := .int .i64 Cp) rfl (by kernel_rfl) (by kernel_rfl) (by kernel_rfl) (fun c a w h => hN c _ a _ w h) (Or.inl ⟨by kernel_rfl, ?_⟩) (hS.below hW) ?_
    · intro w' hSw
      go_simp
    try simp only [List.setIfInBounds_toArray, List.set]
    exact tr101011 hM1 hQ hN W1 (hS.below hW) (hb.trans (hW.mono hb.size)) x2 (ob_keep h2 hW) l2 x4 (ob_keep h4 hW) l4 x5 (ob_keep h5 hW) l5 n24 n25 n45
  · go_simp
    refine hK.out _ _ (hS.below (al_below W _)) (fun _ => ?_)
    try simp only [List.setIfInBounds_toArray, List.set]
    exact tr011011 hD hP hC hM1 hQ hN (W.alloc (.map #[] 0)) (hS.below (al_below W _)) (hb.trans ((al_below W _).mono hb.size)) W.heap.size (heap_alloc_new W _) hb.size x2 (ob_keep h2 (al_below W _)) l2 x4 (ob_keep h4 (al_below W _)) l4 x5 (ob_keep h5 (al_below W _)) l5 (Nat.ne_of_gt (ob_lt h2)) (Nat.ne_of_gt (ob_lt h4)) (Nat.ne_of_gt (ob_lt h5)) n24 n25 n45
  · go_simp
    refine hK.out _ _ (hS.below (al_below W _)) (fun _ => ?_)
    try simp only [List.setIfInBounds_toArray, List.set]
    exact tr001111 hD hP hC hM1 hQ hN (W.alloc (.map #[] 0)) (hS.below (al_below W _)) (hb.trans ((al_below W _).mono hb.size)) x2 (ob_keep h2 (al_below W _)) l2 W.heap.size (heap_alloc_new W _) hb.size x4 (ob_keep h4 (al_below W _)) l4 x5 (ob_keep h5 (al_below W _)) l5 (Nat.ne_of_lt (ob_lt h2)) n24 n25 (Nat.ne_of_gt (ob_lt h4)) (Nat.ne_of_gt (ob_lt h5)) n45

omit hB hU in
set_option maxRecDepth 100000 in
set_option maxHeartbeats 1000000 in
theorem tr000111 (W : World) (hS : GT g0 nb np sz W) (hb : Below w.heap.size w W) (x3 : Nat) (h3 : W.heap[x3]? = some (.map #[] 0)) (l3 : w.heap.size ≤ x3) (x4 : Nat) (h4 : W.heap[x4]? = some (.cells csB 4)) (l4 : w.heap.size ≤ x4) (x5 : Nat) (h5 : W.heap[x5]? = some (.cells csU 87)) (l5 : w.heap.size ≤ x5) (n34 : x3 ≠ x4) (n35 : x3 ≠ x5) (n45 : x4 ≠ x5) :
    wpAnyH Tryz.prog .any tops Q (GT g0 nb np sz) 8 #[true, true, true, true, true, true, false, true, true, false, false, false, false, true, true, true, true, true, true, true, false, false, false] ⟨#[.pointer (some ⟨cb, 0, none⟩), .int .i64 res, .int .i64 bad, undef, undef, undef, .pointer none, .pointer (some ⟨g0, 0, none⟩), .pointer (some ⟨cb, 0, none⟩), .agg #[.int .i64 nb, .int .i64 np, .int .i64 sz], .pointer (some ⟨cb, 0, none⟩), .int .i64 res, .int .i64 bad, .agg #[.int .i64 nb, .int .i64 np, .int .i64 sz], .int .i64 bad, .int .i64 res, undef, .pointer (some ⟨g0, 1, none⟩), .int .i64 np, undef, undef, undef, undef, .map (some x3), .pointer (some ⟨g0, 0, none⟩), .int .i64 nb, .slice (some ⟨x4, 0, none⟩) nb nb, .pointer (some ⟨g0, 0, none⟩), .int .i64 nb, .slice (some ⟨x5, 0, none⟩) nb nb, undef, undef], []⟩ W := by
  unfold tops
  refine wpAnyH_ready (rs := [6, 11, 12]) (by kernel_rfl) (by simp) ?_
  refine AllReadyH.cons rfl (fun K hK => ?_) (AllReadyH.cons rfl (fun K hK => ?_) (AllReadyH.cons rfl (fun K hK => ?_) AllReadyH.nil))
  · go_simp
    refine (hD W).mono ?_
    rintro e W1 ⟨rfl, hW⟩
    refine hK.out _ _ (hS.below hW) (fun _ => ?_)
    try simp only [List.setIfInBounds_toArray, List.set]
    refine wpAnyH_take (i := 9) (v := .int .i64 P) rfl (by kernel_rfl) (by kernel_rfl) (by kernel_rfl) (fun c a w h => hN c _ a _ w h) (Or.inl ⟨by kernel_rfl, ?_⟩) (hS.below hW) ?_
    · intro w' hSw
      go_simp
    refine wpAnyH_take (i := 10) (v := .int .i64 Cp) rfl (by kernel_rfl) (by kernel_rfl) (by kernel_rfl) (fun c a w h => hN c _ a _ w h) (Or.inl ⟨by kernel_rfl, ?_⟩) (hS.below hW) ?_
    · intro w' hSw
      go_simp
    try simp only [List.setIfInBounds_toArray, List.set]
    exact tr100111 hM1 hQ hN W1 (hS.below hW) (hb.trans (hW.mono hb.size)) x3 (ob_keep h3 hW) l3 x4 (ob_keep h4 hW) l4 x5 (ob_keep h5 hW) l5 n34 n35 n45
  · go_simp
    refine hK.out _ _ (hS.below (al_below W _)) (fun _ => ?_)
    try simp only [List.setIfInBounds_toArray, List.set]
    exact tr010111 hD hP hC hM1 hQ hN (W.alloc (.map #[] 0)) (hS.below (al_below W _)) (hb.trans ((al_below W _).mono hb.size)) W.heap.size (heap_alloc_new W _) hb.size x3 (ob_keep h3 (al_below W _)) l3 x4 (ob_keep h4 (al_below W _)) l4 x5 (ob_keep h5 (al_below W _)) l5 (Nat.ne_of_gt (ob_lt h3)) (Nat.ne_of_gt (ob_lt h4)) (Nat.ne_of_gt (ob_lt h5)) n34 n35 n45
  · go_simp
    refine hK.out _ _ (hS.below (al_below W _)) (fun _ => ?_)
    try simp only [List.setIfInBounds_toArray, List.set]
    exact tr001111 hD hP hC hM1 hQ hN (W.alloc (.map #[] 0)) (hS.below (al_below W _)) (hb.trans ((al_below W _).mono hb.size)) W.heap.size (heap_alloc_new W _) hb.size x3 (ob_keep h3 (al_below W _)) l3 x4 (ob_keep h4 (al_below W _)) l4 x5 (ob_keep h5 (al_below W _)) l5 (Nat.ne_of_gt (ob_lt h3)) (Nat.ne_of_gt (ob_lt h4)) (Nat.ne_of_gt (ob_lt h5)) n34 n35 n45

omit hD hP hC in
set_option maxRecDepth 100000 in
set_option maxHeartbeats 1000000 in
theorem tr110000 (W : World) (hS : GT g0 nb np sz W) (hb : Below w.heap.size w W) (x1 : Nat) (h1 : W.heap[x1]? = some (.map #[] 0)) (l1 : w.heap.size ≤ x1) :
    wpAnyH Tryz.prog .any tops Q (GT g0 nb np sz) 7 #[true, true, true, true, true, true, true, true, true, true, true, true, false, false, true, true, false, true, true, false, false, false, false] ⟨#[.pointer (some ⟨cb, 0, none⟩), .int .i64 res, .int .i64 bad, undef, undef, undef, .pointer none, .pointer (some ⟨g0, 0, none⟩), .pointer (some ⟨cb, 0, none⟩), .agg #[.int .i64 nb, .int .i64 np, .int .i64 sz], .pointer (some ⟨cb, 0, none⟩), .int .i64 res, .int .i64 bad, .agg #[.int .i64 nb, .int .i64 np, .int .i64 sz], .int .i64 bad, .int .i64 res, .int .i64 D, .pointer (some ⟨g0, 1, none⟩), .int .i64 np, .int .i64 P, .int .i64 Cp, .map (some x1), undef, undef, .pointer (some ⟨g0, 0, none⟩), .int .i64 nb, undef, .pointer (some ⟨g0, 0, none⟩), .int .i64 nb, undef, undef, undef], []⟩ W := by
  unfold tops
  refine wpAnyH_ready (rs := [12, 13, 16, 19]) (by kernel_rfl) (by simp) ?_
  refine AllReadyH.cons rfl (fun K hK => ?_) (AllReadyH.cons rfl (fun K hK => ?_) (AllReadyH.cons rfl (fun K hK => ?_) (AllReadyH.cons rfl (fun K hK => ?_) AllReadyH.nil)))
  · go_simp
    refine hK.out _ _ (hS.below (al_below W _)) (fun _ => ?_)
    try simp only [List.setIfInBounds_toArray, List.set]
    exact tr111000 hM1 hB hU hQ hN (W.alloc (.map #[] 0)) (hS.below (al_below W _)) (hb.trans ((al_below W _).mono hb.size)) x1 (ob_keep h1 (al_below W _)) l1 W.heap.size (heap_alloc_new W _) hb.size (Nat.ne_of_lt (ob_lt h1))
  · go_simp
    refine hK.out _ _ (hS.below (al_below W _)) (fun _ => ?_)
    try simp only [List.setIfInBounds_toArray, List.set]
    exact tr110100 hM1 hB hU hQ hN (W.alloc (.map #[] 0)) (hS.below (al_below W _)) (hb.trans ((al_below W _).mono hb.size)) x1 (ob_keep h1 (al_below W _)) l1 W.heap.size (heap_alloc_new W _) hb.size (Nat.ne_of_lt (ob_lt h1))
  · go_simp
    refine hK.out _ _ (hS.below (al_below W _)) (fun _ => ?_)
    try simp only [List.setIfInBounds_toArray, List.set]
    exact tr110010 hM1 hU hQ hN (W.alloc (.cells csB 4)) (hS.below (al_below W _)) (hb.trans ((al_below W _).mono hb.size)) x1 (ob_keep h1 (al_below W _)) l1 W.heap.size (heap_alloc_new W _) hb.size (Nat.ne_of_lt (ob_lt h1))
  · go_simp
    refine hK.out _ _ (hS.below (al_below W _)) (fun _ => ?_)
    try simp only [List.setIfInBounds_toArray, List.set]
    exact tr110001 hM1 hB hQ hN (W.alloc (.cells csU 87)) (hS.below (al_below W _)) (hb.trans ((al_below W _).mono hb.size)) x1 (ob_keep h1 (al_below W _)) l1 W.heap.size (heap_alloc_new W _) hb.size (Nat.ne_of_lt (ob_lt h1))

omit hD hP hC in
set_option maxRecDepth 100000 in
set_option maxHeartbeats 1000000 in
theorem tr101000 (W : World) (hS : GT g0 nb np sz W) (hb : Below w.heap.size w W) (x2 : Nat) (h2 : W.heap[x2]? = some (.map #[] 0)) (l2 : w.heap.size ≤ x2) :
    wpAnyH Tryz.prog .any tops Q (GT g0 nb np sz) 7 #[true, true, true, true, true, true, true, true, true, true, true, false, true, false, true, true, false, true, true, false, false, false, false] ⟨#[.pointer (some ⟨cb, 0, none⟩), .int .i64 res, .int .i64 bad, undef, undef, undef, .pointer none, .pointer (some ⟨g0, 0, none⟩), .pointer (some ⟨cb, 0, none⟩), .agg #[.int .i64 nb, .int .i64 np, .int .i64 sz], .pointer (some ⟨cb, 0, none⟩), .int .i64 res, .int .i64 bad, .agg #[.int .i64 nb, .int .i64 np, .int .i64 sz], .int .i64 bad, .int .i64 res, .int .i64 D, .pointer (some ⟨g0, 1, none⟩), .int .i64 np, .int .i64 P, .int .i64 Cp, undef, .map (some x2), undef, .pointer (some ⟨g0, 0, none⟩), .int .i64 nb, undef, .pointer (some ⟨g0, 0, none⟩), .int .i64 nb, undef, undef, undef], []⟩ W := by
  unfold tops
  refine wpAnyH_ready (rs := [11, 13, 16, 19]) (by kernel_rfl) (by simp) ?_
  refine AllReadyH.cons rfl (fun K hK => ?_) (AllReadyH.cons rfl (fun K hK => ?_) (AllReadyH.cons rfl (fun K hK => ?_) (AllReadyH.cons rfl (fun K hK => ?_) AllReadyH.nil)))
  · go_simp
    refine hK.out _ _ (hS.below (al_below W _)) (fun _ => ?_)
    try simp only [List.setIfInBounds_toArray, List.set]
    exact tr111000 hM1 hB hU hQ hN (W.alloc (.map #[] 0)) (hS.below (al_below W _)) (hb.trans ((al_below W _).mono hb.size)) W.heap.size (heap_alloc_new W _) hb.size x2 (ob_keep h2 (al_below W _)) l2 (Nat.ne_of_gt (ob_lt h2))
  · go_simp
    refine hK.out _ _ (hS.below (al_below W _)) (fun _ => ?_)
    try simp only [List.setIfInBounds_toArray, List.set]
    exact tr101100 hM1 hB hU hQ hN (W.alloc (.map #[] 0)) (hS.below (al_below W _)) (hb.trans ((al_below W _).mono hb.size)) x2 (ob_keep h2 (al_below W _)) l2 W.heap.size (heap_alloc_new W _) hb.size (Nat.ne_of_lt (ob_lt h2))
  · go_simp
    refine hK.out _ _ (hS.below (al_below W _)) (fun _ => ?_)
    try simp only [List.setIfInBounds_toArray, List.set]
    exact tr101010 hM1 hU hQ hN (W.alloc (.cells csB 4)) (hS.below (al_below W _)) (hb.trans ((al_below W _).mono hb.size)) x2 (ob_keep h2 (al_below W _)) l2 W.heap.size (heap_alloc_new W _) hb.size (Nat.ne_of_lt (ob_lt h2))
  · go_simp
    refine hK.out _ _ (hS.below (al_below W _)) (fun _ => ?_)
    try simp only [List.setIfInBounds_toArray, List.set]
    exact tr101001 hM1 hB hQ hN (W.alloc (.cells csU 87)) (hS.below (al_below W _)) (hb.trans ((al_below W _).mono hb.size)) x2 (ob_keep h2 (al_below W _)) l2 W.heap.size (heap_alloc_new W _) hb.size (Nat.ne_of_lt (ob_lt h2))

omit hD hP hC in
set_option maxRecDepth 100000 in
set_option maxHeartbeats 1000000 in
theorem tr100100 (W : World) (hS : GT g0 nb np sz W) (hb : Below w.heap.size w W) (x3 : Nat) (h3 : W.heap[x3]? = some (.map #[] 0)) (l3 : w.heap.size ≤ x3) :
    wpAnyH Tryz.prog .any tops Q (GT g0 nb np sz) 7 #[true, true, true, true, true, true, true, true, true, true, true, false, false, true, true, true, false, true, true, false, false, false, false] ⟨#[.pointer (some ⟨cb, 0, none⟩), .int .i64 res, .int .i64 bad, undef, undef, undef, .pointer none, .pointer (some ⟨g0, 0, none⟩), .pointer (some ⟨cb, 0, none⟩), .agg #[.int .i64 nb, .int .i64 np, .int .i64 sz], .pointer (some ⟨cb, 0, none⟩), .int .i64 res, .int .i64 bad, .agg #[.int .i64 nb, .int .i64 np, .int .i64 sz], .int .i64 bad, .int .i64 res, .int .i64 D, .pointer (some ⟨g0, 1, none⟩), .int .i64 np, .int .i64 P, .int .i64 Cp, undef, undef, .map (some x3), .pointer (some ⟨g0, 0, none⟩), .int .i64 nb, undef, .pointer (some ⟨g0, 0, none⟩), .int .i64 nb, undef, undef, undef], []⟩ W := by
  unfold tops
  refine wpAnyH_ready (rs := [11, 12, 16, 19]) (by kernel_rfl) (by simp) ?_
  refine AllReadyH.cons rfl (fun K hK => ?_) (AllReadyH.cons rfl (fun K hK => ?_) (AllReadyH.cons rfl (fun K hK => ?_) (AllReadyH.cons rfl (fun K hK => ?_) AllReadyH.nil)))
  · go_simp
    refine hK.out _ _ (hS.below (al_below W _)) (fun _ => ?_)
    try simp only [List.setIfInBounds_toArray, List.set]
    exact tr110100 hM1 hB hU hQ hN (W.alloc (.map #[] 0)) (hS.below (al_below W _)) (hb.trans ((al_below W _).mono hb.size)) W.heap.size (heap_alloc_new W _) hb.size x3 (ob_keep h3 (al_below W _)) l3 (Nat.ne_of_gt (ob_lt h3))
  · go_simp
    refine hK.out _ _ (hS.below (al_below W _)) (fun _ => ?_)
    try simp only [List.setIfInBounds_toArray, List.set]
    exact tr101100 hM1 hB hU hQ hN (W.alloc (.map #[] 0)) (hS.below (al_below W _)) (hb.trans ((al_below W _).mono hb.size)) W.heap.size (heap_alloc_new W _) hb.size x3 (ob_keep h3 (al_below W _)) l3 (Nat.ne_of_gt (ob_lt h3))
  · go_simp
    refine hK.out _ _ (hS.below (al_below W _)) (fun _ => ?_)
    try simp only [List.setIfInBounds_toArray, List.set]
    exact tr100110 hM1 hU hQ hN (W.alloc (.cells csB 4)) (hS.below (al_below W _)) (hb.trans ((al_below W _).mono hb.size)) x3 (ob_keep h3 (al_below W _)) l3 W.heap.size (heap_alloc_new W _) hb.size (Nat.ne_of_lt (ob_lt h3))
  · go_simp
    refine hK.out _ _ (hS.below (al_below W _)) (fun _ => ?_)
    try simp only [List.setIfInBounds_toArray, List.set]
    exact tr100101 hM1 hB hQ hN (W.alloc (.cells csU 87)) (hS.below (al_below W _)) (hb.trans ((al_below W _).mono hb.size)) x3 (ob_keep h3 (al_below W _)) l3 W.heap.size (heap_alloc_new W _) hb.size (Nat.ne_of_lt (ob_lt h3))

omit hD hP hC hB in
set_option maxRecDepth 100000 in
set_option maxHeartbeats 1000000 in
theorem tr100010 (W : World) (hS : GT g0 nb np sz W) (hb : Below w.heap.size w W) (x4 : Nat) (h4 : W.heap[x4]? = some (.cells csB 4)) (l4 : w.heap.size ≤ x4) :
    wpAnyH Tryz.prog .any tops Q (GT g0 nb np sz) 7 #[true, true, true, true, true, true, true, true, true, true, true, false, false, false, true, true, true, true, true, false, false, false, false] ⟨#[.pointer (some ⟨cb, 0, none⟩), .int .i64 res, .int .i64 bad, undef, undef, undef, .pointer none, .pointer (some ⟨g0, 0, none⟩), .pointer (some ⟨cb, 0, none⟩), .agg #[.int .i64 nb, .int .i64 np, .int .i64 sz], .pointer (some ⟨cb, 0, none⟩), .int .i64 res, .int .i64 bad, .agg #[.int .i64 nb, .int .i64 np, .int .i64 sz], .int .i64 bad, .int .i64 res, .int .i64 D, .pointer (some ⟨g0, 1, none⟩), .int .i64 np, .int .i64 P, .int .i64 Cp, undef, undef, undef, .pointer (some ⟨g0, 0, none⟩), .int .i64 nb, .slice (some ⟨x4, 0, none⟩) nb nb, .pointer (some ⟨g0, 0, none⟩), .int .i64 nb, undef, undef, undef], []⟩ W := by
  unfold tops
  refine wpAnyH_ready (rs := [11, 12, 13, 19]) (by kernel_rfl) (by simp) ?_
  refine AllReadyH.cons rfl (fun K hK => ?_) (AllReadyH.cons rfl (fun K hK => ?_) (AllReadyH.cons rfl (fun K hK => ?_) (AllReadyH.cons rfl (fun K hK => ?_) AllReadyH.nil)))
  · go_simp
    refine hK.out _ _ (hS.below (al_below W _)) (fun _ => ?_)
    try simp only [List.setIfInBounds_toArray, List.set]
    exact tr110010 hM1 hU hQ hN (W.alloc (.map #[] 0)) (hS.below (al_below W _)) (hb.trans ((al_below W _).mono hb.size)) W.heap.size (heap_alloc_new W _) hb.size x4 (ob_keep h4 (al_below W _)) l4 (Nat.ne_of_gt (ob_lt h4))
  · go_simp
    refine hK.out _ _ (hS.below (al_below W _)) (fun _ => ?_)
    try simp only [List.setIfInBounds_toArray, List.set]
    exact tr101010 hM1 hU hQ hN (W.alloc (.map #[] 0)) (hS.below (al_below W _)) (hb.trans ((al_below W _).mono hb.size)) W.heap.size (heap_alloc_new W _) hb.size x4 (ob_keep h4 (al_below W _)) l4 (Nat.ne_of_gt (ob_lt h4))
  · go_simp
    refine hK.out _ _ (hS.below (al_below W _)) (fun _ => ?_)
    try simp only [List.setIfInBounds_toArray, List.set]
    exact tr100110 hM1 hU hQ hN (W.alloc (.map #[] 0)) (hS.below (al_below W _)) (hb.trans ((al_below W _).mono hb.size)) W.heap.size (heap_alloc_new W _) hb.size x4 (ob_keep h4 (al_below W _)) l4 (Nat.ne_of_gt (ob_lt h4))
  · go_simp
    refine hK.out _ _ (hS.below (al_below W _)) (fun _ => ?_)
    try simp only [List.setIfInBounds_toArray, List.set]
    exact tr100011 hM1 hQ hN (W.alloc (.cells csU 87)) (hS.below (al_below W _)) (hb.trans ((al_below W _).mono hb.size)) x4 (ob_keep h4 (al_below W _)) l4 W.heap.size (heap_alloc_new W _) hb.size (Nat.ne_of_lt (ob_lt h4))

omit hD hP hC hU in
set_option maxRecDepth 100000 in
set_option maxHeartbeats 1000000 in
theorem tr100001 (W : World) (hS : GT g0 nb np sz W) (hb : Below w.heap.size w W) (x5 : Nat) (h5 : W.heap[x5]? = some (.cells csU 87)) (l5 : w.heap.size ≤ x5) :
    wpAnyH Tryz.prog .any tops Q (GT g0 nb np sz) 7 #[true, true, true, true, true, true, true, true, true, true, true, false, false, false, true, true, false, true, true, true, false, false, false] ⟨#[.pointer (some ⟨cb, 0, none⟩), .int .i64 res, .int .i64 bad, undef, undef, undef, .pointer none, .pointer (some ⟨g0, 0, none⟩), .pointer (some ⟨cb, 0, none⟩), .agg #[.int .i64 nb, .int .i64 np, .int .i64 sz], .pointer (some ⟨cb, 0, none⟩), .int .i64 res, .int .i64 bad, .agg #[.int .i64 nb, .int .i64 np, .int .i64 sz], .int .i64 bad, .int .i64 res, .int .i64 D, .pointer (some ⟨g0, 1, none⟩), .int .i64 np, .int .i64 P, .int .i64 Cp, undef, undef, undef, .pointer (some ⟨g0, 0, none⟩), .int .i64 nb, undef, .pointer (some ⟨g0, 0, none⟩), .int .i64 nb, .slice (some ⟨x5, 0, none⟩) nb nb, undef, undef], []⟩ W := by
  unfold tops
  refine wpAnyH_ready (rs := [11, 12, 13, 16]) (by kernel_rfl) (by simp) ?_
  refine AllReadyH.cons rfl (fun K hK => ?_) (AllReadyH.cons rfl (fun K hK => ?_) (AllReadyH.cons rfl (fun K hK => ?_) (AllReadyH.cons rfl (fun K hK => ?_) AllReadyH.nil)))
  · go_simp
    refine hK.out _ _ (hS.below (al_below W _)) (fun _ => ?_)
    try simp only [List.setIfInBounds_toArray, List.set]
    exact tr110001 hM1 hB hQ hN (W.alloc (.map #[] 0)) (hS.below (al_below W _)) (hb.trans ((al_below W _).mono hb.size)) W.heap.size (heap_alloc_new W _) hb.size x5 (ob_keep h5 (al_below W _)) l5 (Nat.ne_of_gt (ob_lt h5))
  · go_simp
    refine hK.out _ _ (hS.below (al_below W _)) (fun _ => ?_)
    try simp only [List.setIfInBounds_toArray, List.set]
    exact tr101001 hM1 hB hQ hN (W.alloc (.map #[] 0)) (hS.below (al_below W _)) (hb.trans ((al_below W _).mono hb.size)) W.heap.size (heap_alloc_new W _) hb.size x5 (ob_keep h5 (al_below W _)) l5 (Nat.ne_of_gt (ob_lt h5))
  · go_simp
    refine hK.out _ _ (hS.below (al_below W _)) (fun _ => ?_)
    try simp only [List.setIfInBounds_toArray, List.set]
    exact tr100101 hM1 hB hQ hN (W.alloc (.map #[] 0)) (hS.below (al_below W _)) (hb.trans ((al_below W _).mono hb.size)) W.heap.size (heap_alloc_new W _) hb.size x5 (ob_keep h5 (al_below W _)) l5 (Nat.ne_of_gt (ob_lt h5))
  · go_simp
    refine hK.out _ _ (hS.below (al_below W _)) (fun _ => ?_)
    try simp only [List.setIfInBounds_toArray, List.set]
    exact tr100011 hM1 hQ hN (W.alloc (.cells csB 4)) (hS.below (al_below W _)) (hb.trans ((al_below W _).mono hb.size)) W.heap.size (heap_alloc_new W _) hb.size x5 (ob_keep h5 (al_below W _)) l5 (Nat.ne_of_gt (ob_lt h5))

set_option maxRecDepth 100000 in
set_option maxHeartbeats 1000000 in
theorem tr011000 (W : World) (hS : GT g0 nb np sz W) (hb : Below w.heap.size w W) (x1 : Nat) (h1 : W.heap[x1]? = some (.map #[] 0)) (l1 : w.heap.size ≤ x1) (x2 : Nat) (h2 : W.heap[x2]? = some (.map #[] 0)) (l2 : w.heap.size ≤ x2) (n12 : x1 ≠ x2) :
    wpAnyH Tryz.prog .any tops Q (GT g0 nb np sz) 9 #[true, true, true, true, true, true, false, true, true, false, false, true, true, false, true, true, false, true, true, false, false, false, false] ⟨#[.pointer (some ⟨cb, 0, none⟩), .int .i64 res, .int .i64 bad, undef, undef, undef, .pointer none, .pointer (some ⟨g0, 0, none⟩), .pointer (some ⟨cb, 0, none⟩), .agg #[.int .i64 nb, .int .i64 np, .int .i64 sz], .pointer (some ⟨cb, 0, none⟩), .int .i64 res, .int .i64 bad, .agg #[.int .i64 nb, .int .i64 np, .int .i64 sz], .int .i64 bad, .int .i64 res, undef, .pointer (some ⟨g0, 1, none⟩), .int .i64 np, undef, undef, .map (some x1), .map (some x2), undef, .pointer (some ⟨g0, 0, none⟩), .int .i64 nb, undef, .pointer (some ⟨g0, 0, none⟩), .int .i64 nb, undef, undef, undef], []⟩ W := by
  unfold tops
  refine wpAnyH_ready (rs := [6, 13, 16, 19]) (by kernel_rfl) (by simp) ?_
  refine AllReadyH.cons rfl (fun K hK => ?_) (AllReadyH.cons rfl (fun K hK => ?_) (AllReadyH.cons rfl (fun K hK => ?_) (AllReadyH.cons rfl (fun K hK => ?_) AllReadyH.nil)))
  · go_simp
    refine (hD W).mono ?_
    rintro e W1 ⟨rfl, hW⟩
    refine hK.out _ _ (hS.below hW) (fun _ => ?_)
    try simp only [List.setIfInBounds_toArray, List.set]
    refine wpAnyH_take (i := 9) (v := .int .i64 P) rfl (by kernel_rfl) (by kernel_rfl) (by kernel_rfl) (fun c a w h => hN c _ a _ w h) (Or.inl ⟨by kernel_rfl, ?_⟩) (hS.below hW) ?_
    · intro w' hSw
      go_simp
    refine wpAnyH_take (i := 10) (v := .int .i64 Cp) rfl (by kernel_rfl) (by kernel_rfl) (by kernel_rfl) (fun c a w h => hN c _ a _ w h) (Or.inl ⟨by kernel_rfl, ?_⟩) (hS.below hW) ?_
    · intro w' hSw
      go_simp
    try simp only [List.setIfInBounds_toArray, List.set]
    exact tr111000 hM1 hB hU hQ hN W1 (hS.below hW) (hb.trans (hW.mono hb.size)) x1 (ob_keep h1 hW) l1 x2 (ob_keep h2 hW) l2 n12
  · go_simp
    refine hK.out _ _ (hS.below (al_below W _)) (fun _ => ?_)
    try simp only [List.setIfInBounds_toArray, List.set]
    exact tr011100 hD hP hC hB hU hQ hN (W.alloc (.map #[] 0)) (hS.below (al_below W _)) (hb.trans ((al_below W _).mono hb.size)) x1 (ob_keep h1 (al_below W _)) l1 x2 (ob_keep h2 (al_below W _)) l2 W.heap.size (heap_alloc_new W _) hb.size n12 (Nat.ne_of_lt (ob_lt h1)) (Nat.ne_of_lt (ob_lt h2))
  · go_simp
    refine hK.out _ _ (hS.below (al_below W _)) (fun _ => ?_)
    try simp only [List.setIfInBounds_toArray, List.set]
    exact tr011010 hD hP hC hM1 hU hQ hN (W.alloc (.cells csB 4)) (hS.below (al_below W _)) (hb.trans ((al_below W _).mono hb.size)) x1 (ob_keep h1 (al_below W _)) l1 x2 (ob_keep h2 (al_below W _)) l2 W.heap.size (heap_alloc_new W _) hb.size n12 (Nat.ne_of_lt (ob_lt h1)) (Nat.ne_of_lt (ob_lt h2))
  · go_simp
    refine hK.out _ _ (hS.below (al_below W _)) (fun _ => ?_)
    try simp only [List.setIfInBounds_toArray, List.set]
    exact tr011001 hD hP hC hM1 hB hQ hN (W.alloc (.cells csU 87)) (hS.below (al_below W _)) (hb.trans ((al_below W _).mono hb.size)) x1 (ob_keep h1 (al_below W _)) l1 x2 (ob_keep h2 (al_below W _)) l2 W.heap.size (heap_alloc_new W _) hb.size n12 (Nat.ne_of_lt (ob_lt h1)) (Nat.ne_of_lt (ob_lt h2))

set_option maxRecDepth 100000 in
set_option maxHeartbeats 1000000 in
theorem tr010100 (W : World) (hS : GT g0 nb np sz W) (hb : Below w.heap.size w W) (x1 : Nat) (h1 : W.heap[x1]? = some (.map #[] 0)) (l1 : w.heap.size ≤ x1) (x3 : Nat) (h3 : W.heap[x3]? = some (.map #[] 0)) (l3 : w.heap.size ≤ x3) (n13 : x1 ≠ x3) :
    wpAnyH Tryz.prog .any tops Q (GT g0 nb np sz) 9 #[true, true, true, true, true, true, false, true, true, false, false, true, false, true, true, true, false, true, true, false, false, false, false] ⟨#[.pointer (some ⟨cb, 0, none⟩), .int .i64 res, .int .i64 bad, undef, undef, undef, .pointer none, .pointer (some ⟨g0, 0, none⟩), .pointer (some ⟨cb, 0, none⟩), .agg #[.int .i64 nb, .int .i64 np, .int .i64 sz], .pointer (some ⟨cb, 0, none⟩), .int .i64 res, .int .i64 bad, .agg #[.int .i64 nb, .int .i64 np, .int .i64 sz], .int .i64 bad, .int .i64 res, undef, .pointer (some ⟨g0, 1, none⟩), .int .i64 np, undef, undef, .map (some x1), undef, .map (some x3), .pointer (some ⟨g0, 0, none⟩), .int .i64 nb, undef, .pointer (some ⟨g0, 0, none⟩), .int .i64 nb, undef, undef, undef], []⟩ W := by
  unfold tops
  refine wpAnyH_ready (rs := [6, 12, 16, 19]) (by kernel_rfl) (by simp) ?_
  refine AllReadyH.cons rfl (fun K hK => ?_) (AllReadyH.cons rfl (fun K hK => ?_) (AllReadyH.cons rfl (fun K hK => ?_) (AllReadyH.cons rfl (fun K hK => ?_) AllReadyH.nil)))
  · go_simp
    refine (hD W).mono ?_
    rintro e W1 ⟨rfl, hW⟩
    refine hK.out _ _ (hS.below hW) (fun _ => ?_)
    try simp only [List.setIfInBounds_toArray, List.set]
    refine wpAnyH_take (i := 9) (v := .int .i64 P) rfl (by kernel_rfl) (by kernel_rfl) (by kernel_rfl) (fun c a w h => hN c _ a _ w h) (Or.inl ⟨by kernel_rfl, ?_⟩) (hS.below hW) ?_
    · intro w' hSw
      go_simp
    refine wpAnyH_take (i := 10) (v := .int .i64 Cp) rfl (by kernel_rfl) (by kernel_rfl) (by kernel_rfl) (fun c a w h => hN c _ a _ w h) (Or.inl ⟨by kernel_rfl, ?_⟩) (hS.below hW) ?_
    · intro w' hSw
      go_simp
    try simp only [List.setIfInBounds_toArray, List.set]
    exact tr110100 hM1 hB hU hQ hN W1 (hS.below hW) (hb.trans (hW.mono hb.size)) x1 (ob_keep h1 hW) l1 x3 (ob_keep h3 hW) l3 n13
  · go_simp
    refine hK.out _ _ (hS.below (al_below W _)) (fun _ => ?_)
    try simp only [List.setIfInBounds_toArray, List.set]
    exact tr011100 hD hP hC hB hU hQ hN (W.alloc (.map #[] 0)) (hS.below (al_below W _)) (hb.trans ((al_below W _).mono hb.size)) x1 (ob_keep h1 (al_below W _)) l1 W.heap.size (heap_alloc_new W _) hb.size x3 (ob_keep h3 (al_below W _)) l3 (Nat.ne_of_lt (ob_lt h1)) n13 (Nat.ne_of_gt (ob_lt h3))
  · go_simp
    refine hK.out _ _ (hS.below (al_below W _)) (fun _ => ?_)
    try simp only [List.setIfInBounds_toArray, List.set]
    exact tr010110 hD hP hC hM1 hU hQ hN (W.alloc (.cells csB 4)) (hS.below (al_below W _)) (hb.trans ((al_below W _).mono hb.size)) x1 (ob_keep h1 (al_below W _)) l1 x3 (ob_keep h3 (al_below W _)) l3 W.heap.size (heap_alloc_new W _) hb.size n13 (Nat.ne_of_lt (ob_lt h1)) (Nat.ne_of_lt (ob_lt h3))
  · go_simp
    refine hK.out _ _ (hS.below (al_below W _)) (fun _ => ?_)
    try simp only [List.setIfInBounds_toArray, List.set]
    exact tr010101 hD hP hC hM1 hB hQ hN (W.alloc (.cells csU 87)) (hS.below (al_below W _)) (hb.trans ((al_below W _).mono hb.size)) x1 (ob_keep h1 (al_below W _)) l1 x3 (ob_keep h3 (al_below W _)) l3 W.heap.size (heap_alloc_new W _) hb.size n13 (Nat.ne_of_lt (ob_lt h1)) (Nat.ne_of_lt (ob_lt h3))

omit hB in
set_option maxRecDepth 100000 in
set_option maxHeartbeats 1000000 in
theorem tr010010 (W : World) (hS : GT g0 nb np sz W) (hb : Below w.heap.size w W) (x1 : Nat) (h1 : W.heap[x1]? = some (.map #[] 0)) (l1 : w.heap.size ≤ x1) (x4 : Nat) (h4 : W.heap[x4]? = some (.cells csB 4)) (l4 : w.heap.size ≤ x4) (n14 : x1 ≠ x4) :
    wpAnyH Tryz.prog .any tops Q (GT g0 nb np sz) 9 #[true, true, true, true, true, true, false, true, true, false, false, true, false, false, true, true, true, true, true, false, false, false, false] ⟨#[.pointer (some ⟨cb, 0, none⟩), .int .i64 res, .int .i64 bad, undef, undef, undef, .pointer none, .pointer (some ⟨g0, 0, none⟩), .pointer (some ⟨cb, 0, none⟩), .agg #[.int .i64 nb, .int .i64 np, .int .i64 sz], .pointer (some ⟨cb, 0, none⟩), .int .i64 res, .int .i64 bad, .agg #[.int .i64 nb, .int .i64 np, .int .i64 sz], .int .i64 bad, .int .i64 res, undef, .pointer (some ⟨g0, 1, none⟩), .int .i64 np, undef, undef, .map (some x1), undef, undef, .pointer (some ⟨g0, 0, none⟩), .int .i64 nb, .slice (some ⟨x4, 0, none⟩) nb nb, .pointer (some ⟨g0, 0, none⟩), .int .i64 nb, undef, undef, undef], []⟩ W := by
  unfold tops
  refine wpAnyH_ready (rs := [6, 12, 13, 19]) (by kernel_rfl) (by simp) ?_
  refine AllReadyH.cons rfl (fun K hK => ?_) (AllReadyH.cons rfl (fun K hK => ?_) (AllReadyH.cons rfl (fun K hK => ?_) (AllReadyH.cons rfl (fun K hK => ?_) AllReadyH.nil)))
  · go_simp
    refine (hD W).mono ?_
    rintro e W1 ⟨rfl, hW⟩
    refine hK.out _ _ (hS.below hW) (fun _ => ?_)
    try simp only [List.setIfInBounds_toArray, List.set]
    refine wpAnyH_take (i := 9) (v := .int .i64 P) rfl (by kernel_rfl) (by kernel_rfl) (by kernel_rfl) (fun c a w h => hN c _ a _ w h) (Or.inl ⟨by kernel_rfl, ?_⟩) (hS.below hW) ?_
    · intro w' hSw
      go_simp
    refine wpAnyH_take (i := 10) (v := .int .i64 Cp) rfl (by kernel_rfl) (by kernel_rfl) (by kernel_rfl) (fun c a w h => hN c _ a _ w h) (Or.inl ⟨by kernel_rfl, ?_⟩) (hS.below hW) ?_
    · intro w' hSw
      go_simp
    try simp only [List.setIfInBounds_toArray, List.set]
    exact tr110010 hM1 hU hQ hN W1 (hS.below hW) (hb.trans (hW.mono hb.size)) x1 (ob_keep h1 hW) l1 x4 (ob_keep h4 hW) l4 n14
  · go_simp
    refine hK.out _ _ (hS.below (al_below W _)) (fun _ => ?_)
    try simp only [List.setIfInBounds_toArray, List.set]
    exact tr011010 hD hP hC hM1 hU hQ hN (W.alloc (.map #[] 0)) (hS.below (al_below W _)) (hb.trans ((al_below W _).mono hb.size)) x1 (ob_keep h1 (al_below W _)) l1 W.heap.size (heap_alloc_new W _) hb.size x4 (ob_keep h4 (al_below W _)) l4 (Nat.ne_of_lt (ob_lt h1)) n14 (Nat.ne_of_gt (ob_lt h4))
  · go_simp
    refine hK.out _ _ (hS.below (al_below W _)) (fun _ => ?_)
    try simp only [List.setIfInBounds_toArray, List.set]
    exact tr010110 hD hP hC hM1 hU hQ hN (W.alloc (.map #[] 0)) (hS.below (al_below W _)) (hb.trans ((al_below W _).mono hb.size)) x1 (ob_keep h1 (al_below W _)) l1 W.heap.size (heap_alloc_new W _) hb.size x4 (ob_keep h4 (al_below W _)) l4 (Nat.ne_of_lt (ob_lt h1)) n14 (Nat.ne_of_gt (ob_lt h4))
  · go_simp
    refine hK.out _ _ (hS.below (al_below W _)) (fun _ => ?_)
    try simp only [List.setIfInBounds_toArray, List.set]
    exact tr010011 hD hP hC hM1 hQ hN (W.alloc (.cells csU 87)) (hS.below (al_below W _)) (hb.trans ((al_below W _).mono hb.size)) x1 (ob_keep h1 (al_below W _)) l1 x4 (ob_keep h4 (al_below W _)) l4 W.heap.size (heap_alloc_new W _) hb.size n14 (Nat.ne_of_lt (ob_lt h1)) (Nat.ne_of_lt (ob_lt h4))

omit hU in
set_option maxRecDepth 100000 in
set_option maxHeartbeats 1000000 in
theorem tr010001 (W : World) (hS : GT g0 nb np sz W) (hb : Below w.heap.size w W) (x1 : Nat) (h1 : W.heap[x1]? = some (.map #[] 0)) (l1 : w.heap.size ≤ x1) (x5 : Nat) (h5 : W.heap[x5]? = some (.cells csU 87)) (l5 : w.heap.size ≤ x5) (n15 : x1 ≠ x5) :
    wpAnyH Tryz.prog .any tops Q (GT g0 nb np sz) 9 #[true, true, true, true, true, true, false, true, true, false, false, true, false, false, true, true, false, true, true, true, false, false, false] ⟨#[.pointer (some ⟨cb, 0, none⟩), .int .i64 res, .int .i64 bad, undef, undef, undef, .pointer none, .pointer (some ⟨g0, 0, none⟩), .pointer (some ⟨cb, 0, none⟩), .agg #[.int .i64 nb, .int .i64 np, .int .i64 sz], .pointer (some ⟨cb, 0, none⟩), .int .i64 res, .int .i64 bad, .agg #[.int .i64 nb, .int .i64 np, .int .i64 sz], .int .i64 bad, .int .i64 res, undef, .pointer (some ⟨g0, 1, none⟩), .int .i64 np, undef, undef, .map (some x1), undef, undef, .pointer (some ⟨g0, 0, none⟩), .int .i64 nb, undef, .pointer (some ⟨g0, 0, none⟩), .int .i64 nb, .slice (some ⟨x5, 0, none⟩) nb nb, undef, undef], []⟩ W := by
  unfold tops
  refine wpAnyH_ready (rs := [6, 12, 13, 16]) (by kernel_rfl) (by simp) ?_
  refine AllReadyH.cons rfl (fun K hK => ?_) (AllReadyH.cons rfl (fun K hK => ?_) (AllReadyH.cons rfl (fun K hK => ?_) (AllReadyH.cons rfl (fun K hK => ?_) AllReadyH.nil)))
  · go_simp
    refine (hD W).mono ?_
    rintro e W1 ⟨rfl, hW⟩
    refine hK.out _ _ (hS.below hW) (fun _ => ?_)
    try simp only [List.setIfInBounds_toArray, List.set]
    refine wpAnyH_take (i := 9) (v := .int .i64 P) rfl (by kernel_rfl) (by kernel_rfl) (by kernel_rfl) (fun c a w h => hN c _ a _ w h) (Or.inl ⟨by kernel_rfl, ?_⟩) (hS.below hW) ?_
    · intro w' hSw
      go_simp
    refine wpAnyH_take (i := 10) (v := .int .i64 Cp) rfl (by kernel_rfl) (by kernel_rfl) (by kernel_rfl) (fun c a w h => hN c _ a _ w h) (Or.inl ⟨by kernel_rfl, ?_⟩) (hS.below hW) ?_
    · intro w' hSw
      go_simp
    try simp only [List.setIfInBounds_toArray, List.set]
    exact tr110001 hM1 hB hQ hN W1 (hS.below hW) (hb.trans (hW.mono hb.size)) x1 (ob_keep h1 hW) l1 x5 (ob_keep h5 hW) l5 n15
  · go_simp
    refine hK.out _ _ (hS.below (al_below W _)) (fun _ => ?_)
    try simp only [List.setIfInBounds_toArray, List.set]
    exact tr011001 hD hP hC hM1 hB hQ hN (W.alloc (.map #[] 0)) (hS.below (al_below W _)) (hb.trans ((al_below W _).mono hb.size)) x1 (ob_keep h1 (al_below W _)) l1 W.heap.size (heap_alloc_new W _) hb.size x5 (ob_keep h5 (al_below W _)) l5 (Nat.ne_of_lt (ob_lt h1)) n15 (Nat.ne_of_gt (ob_lt h5))
  · go_simp
    refine hK.out _ _ (hS.below (al_below W _)) (fun _ => ?_)
    try simp only [List.setIfInBounds_toArray, List.set]
    exact tr010101 hD hP hC hM1 hB hQ hN (W.alloc (.map #[] 0)) (hS.below (al_below W _)) (hb.trans ((al_below W _).mono hb.size)) x1 (ob_keep h1 (al_below W _)) l1 W.heap.size (heap_alloc_new W _) hb.size x5 (ob_keep h5 (al_below W _)) l5 (Nat.ne_of_lt (ob_lt h1)) n15 (Nat.ne_of_gt (ob_lt h5))
  · go_simp
    refine hK.out _ _ (hS.below (al_below W _)) (fun _ => ?_)
    try simp only [List.setIfInBounds_toArray, List.set]
    exact tr010011 hD hP hC hM1 hQ hN (W.alloc (.cells csB 4)) (hS.below (al_below W _)) (hb.trans ((al_below W _).mono hb.size)) x1 (ob_keep h1 (al_below W _)) l1 W.heap.size (heap_alloc_new W _) hb.size x5 (ob_keep h5 (al_below W _)) l5 (Nat.ne_of_lt (ob_lt h1)) n15 (Nat.ne_of_gt (ob_lt h5))

set_option maxRecDepth 100000 in
set_option maxHeartbeats 1000000 in
theorem tr001100 (W : World) (hS : GT g0 nb np sz W) (hb : Below w.heap.size w W) (x2 : Nat) (h2 : W.heap[x2]? = some (.map #[] 0)) (l2 : w.heap.size ≤ x2) (x3 : Nat) (h3 : W.heap[x3]? = some (.map #[] 0)) (l3 : w.heap.size ≤ x3) (n23 : x2 ≠ x3) :
    wpAnyH Tryz.prog .any tops Q (GT g0 nb np sz) 9 #[true, true, true, true, true, true, false, true, true, false, false, false, true, true, true, true, false, true, true, false, false, false, false] ⟨#[.pointer (some ⟨cb, 0, none⟩), .int .i64 res, .int .i64 bad, undef, undef, undef, .pointer none, .pointer (some ⟨g0, 0, none⟩), .pointer (some ⟨cb, 0, none⟩), .agg #[.int .i64 nb, .int .i64 np, .int .i64 sz], .pointer (some ⟨cb, 0, none⟩), .int .i64 res, .int .i64 bad, .agg #[.int .i64 nb, .int .i64 np, .int .i64 sz], .int .i64 bad, .int .i64 res, undef, .pointer (some ⟨g0, 1, none⟩), .int .i64 np, undef, undef, undef, .map (some x2), .map (some x3), .pointer (some ⟨g0, 0, none⟩), .int .i64 nb, undef, .pointer (some ⟨g0, 0, none⟩), .int .i64 nb, undef, undef, undef], []⟩ W := by
  unfold tops
  refine wpAnyH_ready (rs := [6, 11, 16, 19]) (by kernel_rfl) (by simp) ?_
  refine AllReadyH.cons rfl (fun K hK => ?_) (AllReadyH.cons rfl (fun K hK => ?_) (AllReadyH.cons rfl (fun K hK => ?_) (AllReadyH.cons rfl (fun K hK => ?_) AllReadyH.nil)))
  · go_simp
    refine (hD W).mono ?_
    rintro e W1 ⟨rfl, hW⟩
    refine hK.out _ _ (hS.below hW) (fun _ => ?_)
    try simp only [List.setIfInBounds_toArray, List.set]
    refine wpAnyH_take (i := 9) (v := .int .i64 P) rfl (by kernel_rfl) (by kernel_rfl) (by kernel_rfl) (fun c a w h => hN c _ a _ w h) (Or.inl ⟨by kernel_rfl, ?_⟩) (hS.below hW) ?_
    · intro w' hSw
      go_simp
    refine wpAnyH_take (i := 10) (v := .int .i64 Cp) rfl (by kernel_rfl) (by kernel_rfl) (by kernel_rfl) (fun c a w h => hN c _ a _ w h) (Or.inl ⟨by kernel_rfl, ?_⟩) (hS.below hW) ?_
    · intro w' hSw
      go_simp
    try simp only [List.setIfInBounds_toArray, List.set]
    exact tr101100 hM1 hB hU hQ hN W1 (hS.below hW) (hb.trans (hW.mono hb.size)) x2 (ob_keep h2 hW) l2 x3 (ob_keep h3 hW) l3 n23
  · go_simp
    refine hK.out _ _ (hS.below (al_below W _)) (fun _ => ?_)
    try simp only [List.setIfInBounds_toArray, List.set]
    exact tr011100 hD hP hC hB hU hQ hN (W.alloc (.map #[] 0)) (hS.below (al_below W _)) (hb.trans ((al_below W _).mono hb.size)) W.heap.size (heap_alloc_new W _) hb.size x2 (ob_keep h2 (al_below W _)) l2 x3 (ob_keep h3 (al_below W _)) l3 (Nat.ne_of_gt (ob_lt h2)) (Nat.ne_of_gt (ob_lt h3)) n23
  · go_simp
    refine hK.out _ _ (hS.below (al_below W _)) (fun _ => ?_)
    try simp only [List.setIfInBounds_toArray, List.set]
    exact tr001110 hD hP hC hM1 hU hQ hN (W.alloc (.cells csB 4)) (hS.below (al_below W _)) (hb.trans ((al_below W _).mono hb.size)) x2 (ob_keep h2 (al_below W _)) l2 x3 (ob_keep h3 (al_below W _)) l3 W.heap.size (heap_alloc_new W _) hb.size n23 (Nat.ne_of_lt (ob_lt h2)) (Nat.ne_of_lt (ob_lt h3))
  · go_simp
    refine hK.out _ _ (hS.below (al_below W _)) (fun _ => ?_)
    try simp only [List.setIfInBounds_toArray, List.set]
    exact tr001101 hD hP hC hM1 hB hQ hN (W.alloc (.cells csU 87)) (hS.below (al_below W _)) (hb.trans ((al_below W _).mono hb.size)) x2 (ob_keep h2 (al_below W _)) l2 x3 (ob_keep h3 (al_below W _)) l3 W.heap.size (heap_alloc_new W _) hb.size n23 (Nat.ne_of_lt (ob_lt h2)) (Nat.ne_of_lt (ob_lt h3))

omit hB in
set_option maxRecDepth 100000 in
set_option maxHeartbeats 1000000 in
theorem tr001010 (W : World) (hS : GT g0 nb np sz W) (hb : Below w.heap.size w W) (x2 : Nat) (h2 : W.heap[x2]? = some (.map #[] 0)) (l2 : w.heap.size ≤ x2) (x4 : Nat) (h4 : W.heap[x4]? = some (.cells csB 4)) (l4 : w.heap.size ≤ x4) (n24 : x2 ≠ x4) :
    wpAnyH Tryz.prog .any tops Q (GT g0 nb np sz) 9 #[true, true, true, true, true, true, false, true, true, false, false, false, true, false, true, true, true, true, true, false, false, false, false] ⟨#[.pointer (some ⟨cb, 0, none⟩), .int .i64 res, .int .i64 bad, undef, undef, undef, .pointer none, .pointer (some ⟨g0, 0, none⟩), .pointer (some ⟨cb, 0, none⟩), .agg #[.int .i64 nb, .int .i64 np, .int .i64 sz], .pointer (some ⟨cb, 0, none⟩), .int .i64 res, .int .i64 bad, .agg #[.int .i64 nb, .int .i64 np, .int .i64 sz], .int .i64 bad, .int .i64 res, undef, .pointer (some ⟨g0, 1, none⟩), .int .i64 np, undef, undef, undef, .map (some x2), undef, .pointer (some ⟨g0, 0, none⟩), .int .i64 nb, .slice (some ⟨x4, 0, none⟩) nb nb, .pointer (some ⟨g0, 0, none⟩), .int .i64 nb, undef, undef, undef], []⟩ W := by
  unfold tops
  refine wpAnyH_ready (rs := [6, 11, 13, 19]) (by kernel_rfl) (by simp) ?_
  refine AllReadyH.cons rfl (fun K hK => ?_) (AllReadyH.cons rfl (fun K hK => ?_) (AllReadyH.cons rfl (fun K hK => ?_) (AllReadyH.cons rfl (fun K hK => ?_) AllReadyH.nil)))
  · go_simp
    refine (hD W).mono ?_
    rintro e W1 ⟨rfl, hW⟩
    refine hK.out _ _ (hS.below hW) (fun _ => ?_)
    try simp only [List.setIfInBounds_toArray, List.set]
    refine wpAnyH_take (i := 9) (v := .int .i64 P) rfl (by kernel_rfl) (by kernel_rfl) (by kernel_rfl) (fun c a w h => hN c _ a _ w h) (Or.inl ⟨by kernel_rfl, ?_⟩) (hS.below hW) ?_
    · intro w' hSw
      go_simp
    refine wpAnyH_take (i := 10) (v := .int .i64 Cp) rfl (by kernel_rfl) (by kernel_rfl) (by kernel_rfl) (fun c a w h => hN c _ a _ w h) (Or.inl ⟨by kernel_rfl, ?_⟩) (hS.below hW) ?_
    · intro w' hSw
      go_simp
    try simp only [List.setIfInBounds_toArray, List.set]
    exact tr101010 hM1 hU hQ hN W1 (hS.below hW) (hb.trans (hW.mono hb.size)) x2 (ob_keep h2 hW) l2 x4 (ob_keep h4 hW) l4 n24
  · go_simp
    refine hK.out _ _ (hS.below (al_below W _)) (fun _ => ?_)
    try simp only [List.setIfInBounds_toArray, List.set]
    exact tr011010 hD hP hC hM1 hU hQ hN (W.alloc (.map #[] 0)) (hS.below (al_below W _)) (hb.trans ((al_below W _).mono hb.size)) W.heap.size (heap_alloc_new W _) hb.size x2 (ob_keep h2 (al_below W _)) l2 x4 (ob_keep h4 (al_below W _)) l4 (Nat.ne_of_gt (ob_lt h2)) (Nat.ne_of_gt (ob_lt h4)) n24
  · go_simp
    refine hK.out _ _ (hS.below (al_below W _)) (fun _ => ?_)
    try simp only [List.setIfInBounds_toArray, List.set]
    exact tr001110 hD hP hC hM1 hU hQ hN (W.alloc (.map #[] 0)) (hS.below (al_below W _)) (hb.trans ((al_below W _).mono hb.size)) x2 (ob_keep h2 (al_below W _)) l2 W.heap.size (heap_alloc_new W _) hb.size x4 (ob_keep h4 (al_below W _)) l4 (Nat.ne_of_lt (ob_lt h2)) n24 (Nat.ne_of_gt (ob_lt h4))
  · go_simp
    refine hK.out _ _ (hS.below (al_below W _)) (fun _ => ?_)
    try simp only [List.setIfInBounds_toArray, List.set]
    exact tr001011 hD hP hC hM1 hQ hN (W.alloc (.cells csU 87)) (hS.below (al_below W _)) (hb.trans ((al_below W _).mono hb.size)) x2 (ob_keep h2 (al_below W _)) l2 x4 (ob_keep h4 (al_below W _)) l4 W.heap.size (heap_alloc_new W _) hb.size n24 (Nat.ne_of_lt (ob_lt h2)) (Nat.ne_of_lt (ob_lt h4))

omit hU in
set_option maxRecDepth 100000 in
set_option maxHeartbeats 1000000 in
theorem tr001001 (W : World) (hS : GT g0 nb np sz W) (hb : Below w.heap.size w W) (x2 : Nat) (h2 : W.heap[x2]? = some (.map #[] 0)) (l2 : w.heap.size ≤ x2) (x5 : Nat) (h5 : W.heap[x5]? = some (.cells csU 87)) (l5 : w.heap.size ≤ x5) (n25 : x2 ≠ x5) :
    wpAnyH Tryz.prog .any tops Q (GT g0 nb np sz) 9 #[true, true, true, true, true, true, false, true, true, false, false, false, true, false, true, true, false, true, true, true, false, false, false] ⟨#[.pointer (some ⟨cb, 0, none⟩), .int .i64 res, .int .i64 bad, undef, undef, undef, .pointer none, .pointer (some ⟨g0, 0, none⟩), .pointer (some ⟨cb, 0, none⟩), .agg #[.int .i64 nb, .int .i64 np, .int .i64 sz], .pointer (some ⟨cb, 0, none⟩), .int .i64 res, .int .i64 bad, .agg #[.int .i64 nb, .int .i64 np, .int .i64 sz], .int .i64 bad, .int .i64 res, undef, .pointer (some ⟨g0, 1, none⟩), .int .i64 np, undef, undef, undef, .map (some x2), undef, .pointer (some ⟨g0, 0, none⟩), .int .i64 nb, undef, .pointer (some ⟨g0, 0, none⟩), .int .i64 nb, .slice (some ⟨x5, 0, none⟩) nb nb, undef, undef], []⟩ W := by
  unfold tops
  refine wpAnyH_ready (rs := [6, 11, 13, 16]) (by kernel_rfl) (by simp) ?_
  refine AllReadyH.cons rfl (fun K hK => ?_) (AllReadyH.cons rfl (fun K hK => ?_) (AllReadyH.cons rfl (fun K hK => ?_) (AllReadyH.cons rfl (fun K hK => ?_) AllReadyH.nil)))
  · go_simp
    refine (hD W).mono ?_
    rintro e W1 ⟨rfl, hW⟩
    refine hK.out _ _ (hS.below hW) (fun _ => ?_)
    try simp only [List.setIfInBounds_toArray, List.set]
    refine wpAnyH_take (i := 9) (v := .int .i64 P) rfl (by kernel_rfl) (by kernel_rfl) (by kernel_rfl) (fun c a w h => hN c _ a _ w h) (Or.inl ⟨by kernel_rfl, ?_⟩) (hS.below hW) ?_
    · intro w' hSw
      go_simp
    refine wpAnyH_take (i := 10) (v := .int .i64 Cp) rfl (by kernel_rfl) (by kernel_rfl) (by kernel_rfl) (fun c a w h => hN c _ a _ w h) (Or.inl ⟨by kernel_rfl, ?_⟩) (hS.below hW) ?_
    · intro w' hSw
      go_simp
    try simp only [List.setIfInBounds_toArray, List.set]
    exact tr101001 hM1 hB hQ hN W1 (hS.below hW) (hb.trans (hW.mono hb.size)) x2 (ob_keep h2 hW) l2 x5 (ob_keep h5 hW) l5 n25
  · go_simp
    refine hK.out _ _ (hS.below (al_below W _)) (fun _ => ?_)
    try simp only [List.setIfInBounds_toArray, List.set]
    exact tr011001 hD hP hC hM1 hB hQ hN (W.alloc (.map #[] 0)) (hS.below (al_below W _)) (hb.trans ((al_below W _).mono hb.size)) W.heap.size (heap_alloc_new W _) hb.size x2 (ob_keep h2 (al_below W _)) l2 x5 (ob_keep h5 (al_below W _)) l5 (Nat.ne_of_gt (ob_lt h2)) (Nat.ne_of_gt (ob_lt h5)) n25
  · go_simp
    refine hK.out _ _ (hS.below (al_below W _)) (fun _ => ?_)
    try simp only [List.setIfInBounds_toArray, List.set]
    exact tr001101 hD hP hC hM1 hB hQ hN (W.alloc (.map #[] 0)) (hS.below (al_below W _)) (hb.trans ((al_below W _).mono hb.size)) x2 (ob_keep h2 (al_below W _)) l2 W.heap.size (heap_alloc_new W _) hb.size x5 (ob_keep h5 (al_below W _)) l5 (Nat.ne_of_lt (ob_lt h2)) n25 (Nat.ne_of_gt (ob_lt h5))
  · go_simp
    refine hK.out _ _ (hS.below (al_below W _)) (fun _ => ?_)
    try simp only [List.setIfInBounds_toArray, List.set]
    exact tr001011 hD hP hC hM1 hQ hN (W.alloc (.cells csB 4)) (hS.below (al_below W _)) (hb.trans ((al_below W _).mono hb.size)) x2 (ob_keep h2 (al_below W _)) l2 W.heap.size (heap_alloc_new W _) hb.size x5 (ob_keep h5 (al_below W _)) l5 (Nat.ne_of_lt (ob_lt h2)) n25 (Nat.ne_of_gt (ob_lt h5))

omit hB in
set_option maxRecDepth 100000 in
set_option maxHeartbeats 1000000 in
theorem tr000110 (W : World) (hS : GT g0 nb np sz W) (hb : Below w.heap.size w W) (x3 : Nat) (h3 : W.heap[x3]? = some (.map #[] 0)) (l3 : w.heap.size ≤ x3) (x4 : Nat) (h4 : W.heap[x4]? = some (.cells csB 4)) (l4 : w.heap.size ≤ x4) (n34 : x3 ≠ x4) :
    wpAnyH Tryz.prog .any tops Q (GT g0 nb np sz) 9 #[true, true, true, true, true, true, false, true, true, false, false, false, false, true, true, true, true, true, true, false, false, false, false] ⟨#[.pointer (some ⟨cb, 0, none⟩), .int .i64 res, .int .i64 bad, undef, undef, undef, .pointer none, .pointer (some ⟨g0, 0, none⟩), .pointer (some ⟨cb, 0, none⟩), .agg #[.int .i64 nb, .int .i64 np, .int .i64 sz], .pointer (some ⟨cb, 0, none⟩), .int .i64 res, .int .i64 bad, .agg #[.int .i64 nb, .int .i64 np, .int .i64 sz], .int .i64 bad, .int .i64 res, undef, .pointer (some ⟨g0, 1, none⟩), .int .i64 np, undef, undef, undef, undef, .map (some x3), .pointer (some ⟨g0, 0, none⟩), .int .i64 nb, .slice (some ⟨x4, 0, none⟩) nb nb, .pointer (some ⟨g0, 0, none⟩), .int .i64 nb, undef, undef, undef], []⟩ W := by
  unfold tops
  refine wpAnyH_ready (rs := [6, 11, 12, 19]) (by kernel_rfl) (by simp) ?_
  refine AllReadyH.cons rfl (fun K hK => ?_) (AllReadyH.cons rfl (fun K hK => ?_) (AllReadyH.cons rfl (fun K hK => ?_) (AllReadyH.cons rfl (fun K hK => ?_) AllReadyH.nil)))
  · go_simp
    refine (hD W).mono ?_
    rintro e W1 ⟨rfl, hW⟩
    refine hK.out _ _ (hS.below hW) (fun _ => ?_)
    try simp only [List.setIfInBounds_toArray, List.set]
    refine wpAnyH_take (i := 9) (v := .int .i64 P) rfl (by kernel_rfl) (by kernel_rfl) (by kernel_rfl) (fun c a w h => hN c _ a _ w h) (Or.inl ⟨by kernel_rfl, ?_⟩) (hS.below hW) ?_
    · intro w' hSw
      go_simp
    refine wpAnyH_take (i := 10) (v := .int .i64 Cp) rfl (by kernel_rfl) (by kernel_rfl) (by kernel_rfl) (fun c a w h => hN c _ a _ w h) (Or.inl ⟨by kernel_rfl, ?_⟩) (hS.below hW) ?_
    · intro w' hSw
      go_simp
    try simp only [List.setIfInBounds_toArray, List.set]
    exact tr100110 hM1 hU hQ hN W1 (hS.below hW) (hb.trans (hW.mono hb.size)) x3 (ob_keep h3 hW) l3 x4 (ob_keep h4 hW) l4 n34
  · go_simp
    refine hK.out _ _ (hS.below (al_below W _)) (fun _ => ?_)
    try simp only [List.setIfInBounds_toArray, List.set]
    exact tr010110 hD hP hC hM1 hU hQ hN (W.alloc (.map #[] 0)) (hS.below (al_below W _)) (hb.trans ((al_below W _).mono hb.size)) W.heap.size (heap_alloc_new W _) hb.size x3 (ob_keep h3 (al_below W _)) l3 x4 (ob_keep h4 (al_below W _)) l4 (Nat.ne_of_gt (ob_lt h3)) (Nat.ne_of_gt (ob_lt h4)) n34
  · go_simp
    refine hK.out _ _ (hS.below (al_below W _)) (fun _ => ?_)
    try simp only [List.setIfInBounds_toArray, List.set]
    exact tr001110 hD hP hC hM1 hU hQ hN (W.alloc (.map #[] 0)) (hS.below (al_below W _)) (hb.trans ((al_below W _).mono hb.size)) W.heap.size (heap_alloc_new W _) hb.size x3 (ob_keep h3 (al_below W _)) l3 x4 (ob_keep h4 (al_below W _)) l4 (Nat.ne_of_gt (ob_lt h3)) (Nat.ne_of_gt (ob_lt h4)) n34
  · go_simp
    refine hK.out _ _ (hS.below (al_below W _)) (fun _ => ?_)
    try simp only [List.setIfInBounds_toArray, List.set]
    exact tr000111 hD hP hC hM1 hQ hN (W.alloc (.cells csU 87)) (hS.below (al_below W _)) (hb.trans ((al_below W _).mono hb.size)) x3 (ob_keep h3 (al_below W _)) l3 x4 (ob_keep h4 (al_below W _)) l4 W.heap.size (heap_alloc_new W _) hb.size n34 (Nat.ne_of_lt (ob_lt h3)) (Nat.ne_of_lt (ob_lt h4))

omit hU in
set_option maxRecDepth 100000 in
set_option maxHeartbeats 1000000 in
theorem tr000101 (W : World) (hS : GT g0 nb np sz W) (hb : Below w.heap.size w W) (x3 : Nat) (h3 : W.heap[x3]? = some (.map #[] 0)) (l3 : w.heap.size ≤ x3) (x5 : Nat) (h5 : W.heap[x5]? = some (.cells csU 87)) (l5 : w.heap.size ≤ x5) (n35 : x3 ≠ x5) :
    wpAnyH Tryz.prog .any tops Q (GT g0 nb np sz) 9 #[true, true, true, true, true, true, false, true, true, false, false, false, false, true, true, true, false, true, true, true, false, false, false] ⟨#[.pointer (some ⟨cb, 0, none⟩), .int .i64 res, .int .i64 bad, undef, undef, undef, .pointer none, .pointer (some ⟨g0, 0, none⟩), .pointer (some ⟨cb, 0, none⟩), .agg #[.int .i64 nb, .int .i64 np, .int .i64 sz], .pointer (some ⟨cb, 0, none⟩), .int .i64 res, .int .i64 bad, .agg #[.int .i64 nb, .int .i64 np, .int .i64 sz], .int .i64 bad, .int .i64 res, undef, .pointer (some ⟨g0, 1, none⟩), .int .i64 np, undef, undef, undef, undef, .map (some x3), .pointer (some ⟨g0, 0, none⟩), .int .i64 nb, undef, .pointer (some ⟨g0, 0, none⟩), .int .i64 nb, .slice (some ⟨x5, 0, none⟩) nb nb, undef, undef], []⟩ W := by
  unfold tops
  refine wpAnyH_ready (rs := [6, 11, 12, 16]) (by kernel_rfl) (by simp) ?_
  refine AllReadyH.cons rfl (fun K hK => ?_) (AllReadyH.cons rfl (fun K hK => ?_) (AllReadyH.cons rfl (fun K hK => ?_) (AllReadyH.cons rfl (fun K hK => ?_) AllReadyH.nil)))
  · go_simp
    refine (hD W).mono ?_
    rintro e W1 ⟨rfl, hW⟩
    refine hK.out _ _ (hS.below hW) (fun _ => ?_)
    try simp only [List.setIfInBounds_toArray, List.set]
    refine wpAnyH_take (i := 9) (v := .int .i64 P) rfl (by kernel_rfl) (by kernel_rfl) (by kernel_rfl) (fun c a w h => hN c _ a _ w h) (Or.inl ⟨by kernel_rfl, ?_⟩) (hS.below hW) ?_
    · intro w' hSw
      go_simp
    refine wpAnyH_take (i := 10) (v := .int .i64 Cp) rfl (by kernel_rfl) (by kernel_rfl) (by kernel_rfl) (fun c a w h => hN c _ a _ w h) (Or.inl ⟨by kernel_rfl, ?_⟩) (hS.below hW) ?_
    · intro w' hSw
      go_simp
    try simp only [List.setIfInBounds_toArray, List.set]
    exact tr100101 hM1 hB hQ hN W1 (hS.below hW) (hb.trans (hW.mono hb.size)) x3 (ob_keep h3 hW) l3 x5 (ob_keep h5 hW) l5 n35
  · go_simp
    refine hK.out _ _ (hS.below (al_below W _)) (fun _ => ?_)
    try simp only [List.setIfInBounds_toArray, List.set]
    exact tr010101 hD hP hC hM1 hB hQ hN (W.alloc (.map #[] 0)) (hS.below (al_below W _)) (hb.trans ((al_below W _).mono hb.size)) W.heap.size (heap_alloc_new W _) hb.size x3 (ob_keep h3 (al_below W _)) l3 x5 (ob_keep h5 (al_below W _)) l5 (Nat.ne_of_gt (ob_lt h3)) (Nat.ne_of_gt (ob_lt h5)) n35
  · go_simp
    refine hK.out _ _ (hS.below (al_below W _)) (fun _ => ?_)
    try simp only [List.setIfInBounds_toArray, List.set]
    exact tr001101 hD hP hC hM1 hB hQ hN (W.alloc (.map #[] 0)) (hS.below (al_below W _)) (hb.trans ((al_below W _).mono hb.size)) W.heap.size (heap_alloc_new W _) hb.size x3 (ob_keep h3 (al_below W _)) l3 x5 (ob_keep h5 (al_below W _)) l5 (Nat.ne_of_gt (ob_lt h3)) (Nat.ne_of_gt (ob_lt h5)) n35
  · go_simp
    refine hK.out _ _ (hS.below (al_below W _)) (fun _ => ?_)
    try simp only [List.setIfInBounds_toArray, List.set]
    exact tr000111 hD hP hC hM1 hQ hN (W.alloc (.cells csB 4)) (hS.below (al_below W _)) (hb.trans ((al_below W _).mono hb.size)) x3 (ob_keep h3 (al_below W _)) l3 W.heap.size (heap_alloc_new W _) hb.size x5 (ob_keep h5 (al_below W _)) l5 (Nat.ne_of_lt (ob_lt h3)) n35 (Nat.ne_of_gt (ob_lt h5))

omit hB hU in
set_option maxRecDepth 100000 in
set_option maxHeartbeats 1000000 in
theorem tr000011 (W : World) (hS : GT g0 nb np sz W) (hb : Below w.heap.size w W) (x4 : Nat) (h4 : W.heap[x4]? = some (.cells csB 4)) (l4 : w.heap.size ≤ x4) (x5 : Nat) (h5 : W.heap[x5]? = some (.cells csU 87)) (l5 : w.heap.size ≤ x5) (n45 : x4 ≠ x5) :
    wpAnyH Tryz.prog .any tops Q (GT g0 nb np sz) 9 #[true, true, true, true, true, true, false, true, true, false, false, false, false, false, true, true, true, true, true, true, false, false, false] ⟨#[.pointer (some ⟨cb, 0, none⟩), .int .i64 res, .int .i64 bad, undef, undef, undef, .pointer none, .pointer (some ⟨g0, 0, none⟩), .pointer (some ⟨cb, 0, none⟩), .agg #[.int .i64 nb, .int .i64 np, .int .i64 sz], .pointer (some ⟨cb, 0, none⟩), .int .i64 res, .int .i64 bad, .agg #[.int .i64 nb, .int .i64 np, .int .i64 sz], .int .i64 bad, .int .i64 res, undef, .pointer (some ⟨g0, 1, none⟩), .int .i64 np, undef, undef, undef, undef, undef, .pointer (some ⟨g0, 0, none⟩), .int .i64 nb, .slice (some ⟨x4, 0, none⟩) nb nb, .pointer (some ⟨g0, 0, none⟩), .int .i64 nb, .slice (some ⟨x5, 0, none⟩) nb nb, undef, undef], []⟩ W := by
  unfold tops
  refine wpAnyH_ready (rs := [6, 11, 12, 13]) (by kernel_rfl) (by simp) ?_
  refine AllReadyH.cons rfl (fun K hK => ?_) (AllReadyH.cons rfl (fun K hK => ?_) (AllReadyH.cons rfl (fun K hK => ?_) (AllReadyH.cons rfl (fun K hK => ?_) AllReadyH.nil)))
  · go_simp
    refine (hD W).mono ?_
    rintro e W1 ⟨rfl, hW⟩
    refine hK.out _ _ (hS.below hW) (fun _ => ?_)
    try simp only [List.setIfInBounds_toArray, List.set]
    refine wpAnyH_take (i := 9) (v := .int .i64 P) rfl (by kernel_rfl) (by kernel_rfl) (by kernel_rfl) (fun c a w h => hN c _ a _ w h) (Or.inl ⟨by kernel_rfl, ?_⟩) (hS.below hW) ?_
    · intro w' hSw
      go_simp
    refine wpAnyH_take (i := 10) (v := .int .i64 Cp) rfl (by kernel_rfl) (by kernel_rfl) (by kernel_rfl) (fun c a w h => hN c _ a _ w h) (Or.inl ⟨by kernel_rfl, ?_⟩) (hS.below hW) ?_
    · intro w' hSw
      go_simp
    try simp only [List.setIfInBounds_toArray, List.set]
    exact tr100011 hM1 hQ hN W1 (hS.below hW) (hb.trans (hW.mono hb.size)) x4 (ob_keep h4 hW) l4 x5 (ob_keep h5 hW) l5 n45
  · go_simp
    refine hK.out _ _ (hS.below (al_below W _)) (fun _ => ?_)
    try simp only [List.setIfInBounds_toArray, List.set]
    exact tr010011 hD hP hC hM1 hQ hN (W.alloc (.map #[] 0)) (hS.below (al_below W _)) (hb.trans ((al_below W _).mono hb.size)) W.heap.size (heap_alloc_new W _) hb.size x4 (ob_keep h4 (al_below W _)) l4 x5 (ob_keep h5 (al_below W _)) l5 (Nat.ne_of_gt (ob_lt h4)) (Nat.ne_of_gt (ob_lt h5)) n45
  · go_simp
    refine hK.out _ _ (hS.below (al_below W _)) (fun _ => ?_)
    try simp only [List.setIfInBounds_toArray, List.set]
    exact tr001011 hD hP hC hM1 hQ hN (W.alloc (.map #[] 0)) (hS.below (al_below W _)) (hb.trans ((al_below W _).mono hb.size)) W.heap.size (heap_alloc_new W _) hb.size x4 (ob_keep h4 (al_below W _)) l4 x5 (ob_keep h5 (al_below W _)) l5 (Nat.ne_of_gt (ob_lt h4)) (Nat.ne_of_gt (ob_lt h5)) n45
  · go_simp
    refine hK.out _ _ (hS.below (al_below W _)) (fun _ => ?_)
    try simp only [List.setIfInBounds_toArray, List.set]
    exact tr000111 hD hP hC hM1 hQ hN (W.alloc (.map #[] 0)) (hS.below (al_below W _)) (hb.trans ((al_below W _).mono hb.size)) W.heap.size (heap_alloc_new W _) hb.size x4 (ob_keep h4 (al_below W _)) l4 x5 (ob_keep h5 (al_below W _)) l5 (Nat.ne_of_gt (ob_lt h4)) (Nat.ne_of_gt (ob_lt h5)) n45

omit hD hP hC in
set_option maxRecDepth 100000 in
set_option maxHeartbeats 1000000 in
theorem tr100000 (W : World) (hS : GT g0 nb np sz W) (hb : Below w.heap.size w W) :
    wpAnyH Tryz.prog .any tops Q (GT g0 nb np sz) 8 #[true, true, true, true, true, true, true, true, true, true, true, false, false, false, true, true, false, true, true, false, false, false, false] ⟨#[.pointer (some ⟨cb, 0, none⟩), .int .i64 res, .int .i64 bad, undef, undef, undef, .pointer none, .pointer (some ⟨g0, 0, none⟩), .pointer (some ⟨cb, 0, none⟩), .agg #[.int .i64 nb, .int .i64 np, .int .i64 sz], .pointer (some ⟨cb, 0, none⟩), .int .i64 res, .int .i64 bad, .agg #[.int .i64 nb, .int .i64 np, .int .i64 sz], .int .i64 bad, .int .i64 res, .int .i64 D, .pointer (some ⟨g0, 1, none⟩), .int .i64 np, .int .i64 P, .int .i64 Cp, undef, undef, undef, .pointer (some ⟨g0, 0, none⟩), .int .i64 nb, undef, .pointer (some ⟨g0, 0, none⟩), .int .i64 nb, undef, undef, undef], []⟩ W := by
  unfold tops
  refine wpAnyH_ready (rs := [11, 12, 13, 16, 19]) (by kernel_rfl) (by simp) ?_
  refine AllReadyH.cons rfl (fun K hK => ?_) (AllReadyH.cons rfl (fun K hK => ?_) (AllReadyH.cons rfl (fun K hK => ?_) (AllReadyH.cons rfl (fun K hK => ?_) (AllReadyH.cons rfl (fun K hK => ?_) AllReadyH.nil))))
  · go_simp
    refine hK.out _ _ (hS.below (al_below W _)) (fun _ => ?_)
    try simp only [List.setIfInBounds_toArray, List.set]
    exact tr110000 hM1 hB hU hQ hN (W.alloc (.map #[] 0)) (hS.below (al_below W _)) (hb.trans ((al_below W _).mono hb.size)) W.heap.size (heap_alloc_new W _) hb.size
  · go_simp
    refine hK.out _ _ (hS.below (al_below W _)) (fun _ => ?_)
    try simp only [List.setIfInBounds_toArray, List.set]
    exact tr101000 hM1 hB hU hQ hN (W.alloc (.map #[] 0)) (hS.below (al_below W _)) (hb.trans ((al_below W _).mono hb.size)) W.heap.size (heap_alloc_new W _) hb.size
  · go_simp
    refine hK.out _ _ (hS.below (al_below W _)) (fun _ => ?_)
    try simp only [List.setIfInBounds_toArray, List.set]
    exact tr100100 hM1 hB hU hQ hN (W.alloc (.map #[] 0)) (hS.below (al_below W _)) (hb.trans ((al_below W _).mono hb.size)) W.heap.size (heap_alloc_new W _) hb.size
  · go_simp
    refine hK.out _ _ (hS.below (al_below W _)) (fun _ => ?_)
    try simp only [List.setIfInBounds_toArray, List.set]
    exact tr100010 hM1 hU hQ hN (W.alloc (.cells csB 4)) (hS.below (al_below W _)) (hb.trans ((al_below W _).mono hb.size)) W.heap.size (heap_alloc_new W _) hb.size
  · go_simp
    refine hK.out _ _ (hS.below (al_below W _)) (fun _ => ?_)
    try simp only [List.setIfInBounds_toArray, List.set]
    exact tr100001 hM1 hB hQ hN (W.alloc (.cells csU 87)) (hS.below (al_below W _)) (hb.trans ((al_below W _).mono hb.size)) W.heap.size (heap_alloc_new W _) hb.size

set_option maxRecDepth 100000 in
set_option maxHeartbeats 1000000 in
theorem tr010000 (W : World) (hS : GT g0 nb np sz W) (hb : Below w.heap.size w W) (x1 : Nat) (h1 : W.heap[x1]? = some (.map #[] 0)) (l1 : w.heap.size ≤ x1) :
    wpAnyH Tryz.prog .any tops Q (GT g0 nb np sz) 10 #[true, true, true, true, true, true, false, true, true, false, false, true, false, false, true, true, false, true, true, false, false, false, false] ⟨#[.pointer (some ⟨cb, 0, none⟩), .int .i64 res, .int .i64 bad, undef, undef, undef, .pointer none, .pointer (some ⟨g0, 0, none⟩), .pointer (some ⟨cb, 0, none⟩), .agg #[.int .i64 nb, .int .i64 np, .int .i64 sz], .pointer (some ⟨cb, 0, none⟩), .int .i64 res, .int .i64 bad, .agg #[.int .i64 nb, .int .i64 np, .int .i64 sz], .int .i64 bad, .int .i64 res, undef, .pointer (some ⟨g0, 1, none⟩), .int .i64 np, undef, undef, .map (some x1), undef, undef, .pointer (some ⟨g0, 0, none⟩), .int .i64 nb, undef, .pointer (some ⟨g0, 0, none⟩), .int .i64 nb, undef, undef, undef], []⟩ W := by
  unfold tops
  refine wpAnyH_ready (rs := [6, 12, 13, 16, 19]) (by kernel_rfl) (by simp) ?_
  refine AllReadyH.cons rfl (fun K hK => ?_) (AllReadyH.cons rfl (fun K hK => ?_) (AllReadyH.cons rfl (fun K hK => ?_) (AllReadyH.cons rfl (fun K hK => ?_) (AllReadyH.cons rfl (fun K hK => ?_) AllReadyH.nil))))
  · go_simp
    refine (hD W).mono ?_
    rintro e W1 ⟨rfl, hW⟩
    refine hK.out _ _ (hS.below hW) (fun _ => ?_)
    try simp only [List.setIfInBounds_toArray, List.set]
    refine wpAnyH_take (i := 9) (v := .int .i64 P) rfl (by kernel_rfl) (by kernel_rfl) (by kernel_rfl) (fun c a w h => hN c _ a _ w h) (Or.inl ⟨by kernel_rfl, ?_⟩) (hS.below hW) ?_
    · intro w' hSw
      go_simp
    refine wpAnyH_take (i := 10) (v := .int .i64 Cp) rfl (by kernel_rfl) (by kernel_rfl) (by kernel_rfl) (fun c a w h => hN c _ a _ w h) (Or.inl ⟨by kernel_rfl, ?_⟩) (hS.below hW) ?_
    · intro w' hSw
      go_simp
    try simp only [List.setIfInBounds_toArray, List.set]
    exact tr110000 hM1 hB hU hQ hN W1 (hS.below hW) (hb.trans (hW.mono hb.size)) x1 (ob_keep h1 hW) l1
  · go_simp
    refine hK.out _ _ (hS.below (al_below W _)) (fun _ => ?_)
    try simp only [List.setIfInBounds_toArray, List.set]
    exact tr011000 hD hP hC hM1 hB hU hQ hN (W.alloc (.map #[] 0)) (hS.below (al_below W _)) (hb.trans ((al_below W _).mono hb.size)) x1 (ob_keep h1 (al_below W _)) l1 W.heap.size (heap_alloc_new W _) hb.size (Nat.ne_of_lt (ob_lt h1))
  · go_simp
    refine hK.out _ _ (hS.below (al_below W _)) (fun _ => ?_)
    try simp only [List.setIfInBounds_toArray, List.set]
    exact tr010100 hD hP hC hM1 hB hU hQ hN (W.alloc (.map #[] 0)) (hS.below (al_below W _)) (hb.trans ((al_below W _).mono hb.size)) x1 (ob_keep h1 (al_below W _)) l1 W.heap.size (heap_alloc_new W _) hb.size (Nat.ne_of_lt (ob_lt h1))
  · go_simp
    refine hK.out _ _ (hS.below (al_below W _)) (fun _ => ?_)
    try simp only [List.setIfInBounds_toArray, List.set]
    exact tr010010 hD hP hC hM1 hU hQ hN (W.alloc (.cells csB 4)) (hS.below (al_below W _)) (hb.trans ((al_below W _).mono hb.size)) x1 (ob_keep h1 (al_below W _)) l1 W.heap.size (heap_alloc_new W _) hb.size (Nat.ne_of_lt (ob_lt h1))
  · go_simp
    refine hK.out _ _ (hS.below (al_below W _)) (fun _ => ?_)
    try simp only [List.setIfInBounds_toArray, List.set]
    exact tr010001 hD hP hC hM1 hB hQ hN (W.alloc (.cells csU 87)) (hS.below (al_below W _)) (hb.trans ((al_below W _).mono hb.size)) x1 (ob_keep h1 (al_below W _)) l1 W.heap.size (heap_alloc_new W _) hb.size (Nat.ne_of_lt (ob_lt h1))

set_option maxRecDepth 100000 in
set_option maxHeartbeats 1000000 in
theorem tr001000 (W : World) (hS : GT g0 nb np sz W) (hb : Below w.heap.size w W) (x2 : Nat) (h2 : W.heap[x2]? = some (.map #[] 0)) (l2 : w.heap.size ≤ x2) :
    wpAnyH Tryz.prog .any tops Q (GT g0 nb np sz) 10 #[true, true, true, true, true, true, false, true, true, false, false, false, true, false, true, true, false, true, true, false, false, false, false] ⟨#[.pointer (some ⟨cb, 0, none⟩), .int .i64 res, .int .i64 bad, undef, undef, undef, .pointer none, .pointer (some ⟨g0, 0, none⟩), .pointer (some ⟨cb, 0, none⟩), .agg #[.int .i64 nb, .int .i64 np, .int .i64 sz], .pointer (some ⟨cb, 0, none⟩), .int .i64 res, .int .i64 bad, .agg #[.int .i64 nb, .int .i64 np, .int .i64 sz], .int .i64 bad, .int .i64 res, undef, .pointer (some ⟨g0, 1, none⟩), .int .i64 np, undef, undef, undef, .map (some x2), undef, .pointer (some ⟨g0, 0, none⟩), .int .i64 nb, undef, .pointer (some ⟨g0, 0, none⟩), .int .i64 nb, undef, undef, undef], []⟩ W := by
  unfold tops
  refine wpAnyH_ready (rs := [6, 11, 13, 16, 19]) (by kernel_rfl) (by simp) ?_
  refine AllReadyH.cons rfl (fun K hK => ?_) (AllReadyH.cons rfl (fun K hK => ?_) (AllReadyH.cons rfl (fun K hK => ?_) (AllReadyH.cons rfl (fun K hK => ?_) (AllReadyH.cons rfl (fun K hK => ?_) AllReadyH.nil))))
  · go_simp
    refine (hD W).mono ?_
    rintro e W1 ⟨rfl, hW⟩
    refine hK.out _ _ (hS.below hW) (fun _ => ?_)
    try simp only [List.setIfInBounds_toArray, List.set]
    refine wpAnyH_take (i := 9) (v := .int .i64 P) rfl (by kernel_rfl) (by kernel_rfl) (by kernel_rfl) (fun c a w h => hN c _ a _ w h) (Or.inl ⟨by kernel_rfl, ?_⟩) (hS.below hW) ?_
    · intro w' hSw
      go_simp
    refine wpAnyH_take (i := 10) (v := .int .i64 Cp) rfl (by kernel_rfl) (by kernel_rfl) (by kernel_rfl) (fun c a w h => hN c _ a _ w h) (Or.inl ⟨by kernel_rfl, ?_⟩) (hS.below hW) ?_
    · intro w' hSw
      go_simp
    try simp only [List.setIfInBounds_toArray, List.set]
    exact tr101000 hM1 hB hU hQ hN W1 (hS.below hW) (hb.trans (hW.mono hb.size)) x2 (ob_keep h2 hW) l2
  · go_simp
    refine hK.out _ _ (hS.below (al_below W _)) (fun _ => ?_)
    try simp only [List.setIfInBounds_toArray, List.set]
    exact tr011000 hD hP hC hM1 hB hU hQ hN (W.alloc (.map #[] 0)) (hS.below (al_below W _)) (hb.trans ((al_below W _).mono hb.size)) W.heap.size (heap_alloc_new W _) hb.size x2 (ob_keep h2 (al_below W _)) l2 (Nat.ne_of_gt (ob_lt h2))
  · go_simp
    refine hK.out _ _ (hS.below (al_below W _)) (fun _ => ?_)
    try simp only [List.setIfInBounds_toArray, List.set]
    exact tr001100 hD hP hC hM1 hB hU hQ hN (W.alloc (.map #[] 0)) (hS.below (al_below W _)) (hb.trans ((al_below W _).mono hb.size)) x2 (ob_keep h2 (al_below W _)) l2 W.heap.size (heap_alloc_new W _) hb.size (Nat.ne_of_lt (ob_lt h2))
  · go_simp
    refine hK.out _ _ (hS.below (al_below W _)) (fun _ => ?_)
    try simp only [List.setIfInBounds_toArray, List.set]
    exact tr001010 hD hP hC hM1 hU hQ hN (W.alloc (.cells csB 4)) (hS.below (al_below W _)) (hb.trans ((al_below W _).mono hb.size)) x2 (ob_keep h2 (al_below W _)) l2 W.heap.size (heap_alloc_new W _) hb.size (Nat.ne_of_lt (ob_lt h2))
  · go_simp
    refine hK.out _ _ (hS.below (al_below W _)) (fun _ => ?_)
    try simp only [List.setIfInBounds_toArray, List.set]
    exact tr001001 hD hP hC hM1 hB hQ hN (W.alloc (.cells csU 87)) (hS.below (al_below W _)) (hb.trans ((al_below W _).mono hb.size)) x2 (ob_keep h2 (al_below W _)) l2 W.heap.size (heap_alloc_new W _) hb.size (Nat.ne_of_lt (ob_lt h2))

set_option maxRecDepth 100000 in
set_option maxHeartbeats 1000000 in
theorem tr000100 (W : World) (hS : GT g0 nb np sz W) (hb : Below w.heap.size w W) (x3 : Nat) (h3 : W.heap[x3]? = some (.map #[] 0)) (l3 : w.heap.size ≤ x3) :
    wpAnyH Tryz.prog .any tops Q (GT g0 nb np sz) 10 #[true, true, true, true, true, true, false, true, true, false, false, false, false, true, true, true, false, true, true, false, false, false, false] ⟨#[.pointer (some ⟨cb, 0, none⟩), .int .i64 res, .int .i64 bad, undef, undef, undef, .pointer none, .pointer (some ⟨g0, 0, none⟩), .pointer (some ⟨cb, 0, none⟩), .agg #[.int .i64 nb, .int .i64 np, .int .i64 sz], .pointer (some ⟨cb, 0, none⟩), .int .i64 res, .int .i64 bad, .agg #[.int .i64 nb, .int .i64 np, .int .i64 sz], .int .i64 bad, .int .i64 res, undef, .pointer (some ⟨g0, 1, none⟩), .int .i64 np, undef, undef, undef, undef, .map (some x3), .pointer (some ⟨g0, 0, none⟩), .int .i64 nb, undef, .pointer (some ⟨g0, 0, none⟩), .int .i64 nb, undef, undef, undef], []⟩ W := by
  unfold tops
  refine wpAnyH_ready (rs := [6, 11, 12, 16, 19]) (by kernel_rfl) (by simp) ?_
  refine AllReadyH.cons rfl (fun K hK => ?_) (AllReadyH.cons rfl (fun K hK => ?_) (AllReadyH.cons rfl (fun K hK => ?_) (AllReadyH.cons rfl (fun K hK => ?_) (AllReadyH.cons rfl (fun K hK => ?_) AllReadyH.nil))))
  · go_simp
    refine (hD W).mono ?_
    rintro e W1 ⟨rfl, hW⟩
    refine hK.out _ _ (hS.below hW) (fun _ => ?_)
    try simp only [List.setIfInBounds_toArray, List.set]
    refine wpAnyH_take (i := 9) (v := .int .i64 P) rfl (by kernel_rfl) (by kernel_rfl) (by kernel_rfl) (fun c a w h => hN c _ a _ w h) (Or.inl ⟨by kernel_rfl, ?_⟩) (hS.below hW) ?_
    · intro w' hSw
      go_simp
    refine wpAnyH_take (i := 10) (v := .int .i64 Cp) rfl (by kernel_rfl) (by kernel_rfl) (by kernel_rfl) (fun c a w h => hN c _ a _ w h) (Or.inl ⟨by kernel_rfl, ?_⟩) (hS.below hW) ?_
    · intro w' hSw
      go_simp
    try simp only [List.setIfInBounds_toArray, List.set]
    exact tr100100 hM1 hB hU hQ hN W1 (hS.below hW) (hb.trans (hW.mono hb.size)) x3 (ob_keep h3 hW) l3
  · go_simp
    refine hK.out _ _ (hS.below (al_below W _)) (fun _ => ?_)
    try simp only [List.setIfInBounds_toArray, List.set]
    exact tr010100 hD hP hC hM1 hB hU hQ hN (W.alloc (.map #[] 0)) (hS.below (al_below W _)) (hb.trans ((al_below W _).mono hb.size)) W.heap.size (heap_alloc_new W _) hb.size x3 (ob_keep h3 (al_below W _)) l3 (Nat.ne_of_gt (ob_lt h3))
  · go_simp
    refine hK.out _ _ (hS.below (al_below W _)) (fun _ => ?_)
    try simp only [List.setIfInBounds_toArray, List.set]
    exact tr001100 hD hP hC hM1 hB hU hQ hN (W.alloc (.map #[] 0)) (hS.below (al_below W _)) (hb.trans ((al_below W _).mono hb.size)) W.heap.size (heap_alloc_new W _) hb.size x3 (ob_keep h3 (al_below W _)) l3 (Nat.ne_of_gt (ob_lt h3))
  · go_simp
    refine hK.out _ _ (hS.below (al_below W _)) (fun _ => ?_)
    try simp only [List.setIfInBounds_toArray, List.set]
    exact tr000110 hD hP hC hM1 hU hQ hN (W.alloc (.cells csB 4)) (hS.below (al_below W _)) (hb.trans ((al_below W _).mono hb.size)) x3 (ob_keep h3 (al_below W _)) l3 W.heap.size (heap_alloc_new W _) hb.size (Nat.ne_of_lt (ob_lt h3))
  · go_simp
    refine hK.out _ _ (hS.below (al_below W _)) (fun _ => ?_)
    try simp only [List.setIfInBounds_toArray, List.set]
    exact tr000101 hD hP hC hM1 hB hQ hN (W.alloc (.cells csU 87)) (hS.below (al_below W _)) (hb.trans ((al_below W _).mono hb.size)) x3 (ob_keep h3 (al_below W _)) l3 W.heap.size (heap_alloc_new W _) hb.size (Nat.ne_of_lt (ob_lt h3))

omit hB in
set_option maxRecDepth 100000 in
set_option maxHeartbeats 1000000 in
theorem tr000010 (W : World) (hS : GT g0 nb np sz W) (hb : Below w.heap.size w W) (x4 : Nat) (h4 : W.heap[x4]? = some (.cells csB 4)) (l4 : w.heap.size ≤ x4) :
    wpAnyH Tryz.prog .any tops Q (GT g0 nb np sz) 10 #[true, true, true, true, true, true, false, true, true, false, false, false, false, false, true, true, true, true, true, false, false, false, false] ⟨#[.pointer (some ⟨cb, 0, none⟩), .int .i64 res, .int .i64 bad, undef, undef, undef, .pointer none, .pointer (some ⟨g0, 0, none⟩), .pointer (some ⟨cb, 0, none⟩), .agg #[.int .i64 nb, .int .i64 np, .int .i64 sz], .pointer (some ⟨cb, 0, none⟩), .int .i64 res, .int .i64 bad, .agg #[.int .i64 nb, .int .i64 np, .int .i64 sz], .int .i64 bad, .int .i64 res, undef, .pointer (some ⟨g0, 1, none⟩), .int .i64 np, undef, undef, undef, undef, undef, .pointer (some ⟨g0, 0, none⟩), .int .i64 nb, .slice (some ⟨x4, 0, none⟩) nb nb, .pointer (some ⟨g0, 0, none⟩), .int .i64 nb, undef, undef, undef], []⟩ W := by
  unfold tops
  refine wpAnyH_ready (rs := [6, 11, 12, 13, 19]) (by kernel_rfl) (by simp) ?_
  refine AllReadyH.cons rfl (fun K hK => ?_) (AllReadyH.cons rfl (fun K hK => ?_) (AllReadyH.cons rfl (fun K hK => ?_) (AllReadyH.cons rfl (fun K hK => ?_) (AllReadyH.cons rfl (fun K hK => ?_) AllReadyH.nil))))
  · go_simp
    refine (hD W).mono ?_
    rintro e W1 ⟨rfl, hW⟩
    refine hK.out _ _ (hS.below hW) (fun _ => ?_)
    try simp only [List.setIfInBounds_toArray, List.set]
    refine wpAnyH_take (i := 9) (v := .int .i64 P) rfl (by kernel_rfl) (by kernel_rfl) (by kernel_rfl) (fun c a w h => hN c _ a _ w h) (Or.inl ⟨by kernel_rfl, ?_⟩) (hS.below hW) ?_
    · intro w' hSw
      go_simp
    refine wpAnyH_take (i := 10) (v := .int .i64 Cp) rfl (by kernel_rfl) (by kernel_rfl) (by kernel_rfl) (fun c a w h => hN c _ a _ w h) (Or.inl ⟨by kernel_rfl, ?_⟩) (hS.below hW) ?_
    · intro w' hSw
      go_simp
    try simp only [List.setIfInBounds_toArray, List.set]
    exact tr100010 hM1 hU hQ hN W1 (hS.below hW) (hb.trans (hW.mono hb.size)) x4 (ob_keep h4 hW) l4
  · go_simp
    refine hK.out _ _ (hS.below (al_below W _)) (fun _ => ?_)
    try simp only [List.setIfInBounds_toArray, List.set]
    exact tr010010 hD hP hC hM1 hU hQ hN (W.alloc (.map #[] 0)) (hS.below (al_below W _)) (hb.trans ((al_below W _).mono hb.size)) W.heap.size (heap_alloc_new W _) hb.size x4 (ob_keep h4 (al_below W _)) l4 (Nat.ne_of_gt (ob_lt h4))
  · go_simp
    refine hK.out _ _ (hS.below (al_below W _)) (fun _ => ?_)
    try simp only [List.setIfInBounds_toArray, List.set]
    exact tr001010 hD hP hC hM1 hU hQ hN (W.alloc (.map #[] 0)) (hS.below (al_below W _)) (hb.trans ((al_below W _).mono hb.size)) W.heap.size (heap_alloc_new W _) hb.size x4 (ob_keep h4 (al_below W _)) l4 (Nat.ne_of_gt (ob_lt h4))
  · go_simp
    refine hK.out _ _ (hS.below (al_below W _)) (fun _ => ?_)
    try simp only [List.setIfInBounds_toArray, List.set]
    exact tr000110 hD hP hC hM1 hU hQ hN (W.alloc (.map #[] 0)) (hS.below (al_below W _)) (hb.trans ((al_below W _).mono hb.size)) W.heap.size (heap_alloc_new W _) hb.size x4 (ob_keep h4 (al_below W _)) l4 (Nat.ne_of_gt (ob_lt h4))
  · go_simp
    refine hK.out _ _ (hS.below (al_below W _)) (fun _ => ?_)
    try simp only [List.setIfInBounds_toArray, List.set]
    exact tr000011 hD hP hC hM1 hQ hN (W.alloc (.cells csU 87)) (hS.below (al_below W _)) (hb.trans ((al_below W _).mono hb.size)) x4 (ob_keep h4 (al_below W _)) l4 W.heap.size (heap_alloc_new W _) hb.size (Nat.ne_of_lt (ob_lt h4))

omit hU in
set_option maxRecDepth 100000 in
set_option maxHeartbeats 1000000 in
theorem tr000001 (W : World) (hS : GT g0 nb np sz W) (hb : Below w.heap.size w W) (x5 : Nat) (h5 : W.heap[x5]? = some (.cells csU 87)) (l5 : w.heap.size ≤ x5) :
    wpAnyH Tryz.prog .any tops Q (GT g0 nb np sz) 10 #[true, true, true, true, true, true, false, true, true, false, false, false, false, false, true, true, false, true, true, true, false, false, false] ⟨#[.pointer (some ⟨cb, 0, none⟩), .int .i64 res, .int .i64 bad, undef, undef, undef, .pointer none, .pointer (some ⟨g0, 0, none⟩), .pointer (some ⟨cb, 0, none⟩), .agg #[.int .i64 nb, .int .i64 np, .int .i64 sz], .pointer (some ⟨cb, 0, none⟩), .int .i64 res, .int .i64 bad, .agg #[.int .i64 nb, .int .i64 np, .int .i64 sz], .int .i64 bad, .int .i64 res, undef, .pointer (some ⟨g0, 1, none⟩), .int .i64 np, undef, undef, undef, undef, undef, .pointer (some ⟨g0, 0, none⟩), .int .i64 nb, undef, .pointer (some ⟨g0, 0, none⟩), .int .i64 nb, .slice (some ⟨x5, 0, none⟩) nb nb, undef, undef], []⟩ W := by
  unfold tops
  refine wpAnyH_ready (rs := [6, 11, 12, 13, 16]) (by kernel_rfl) (by simp) ?_
  refine AllReadyH.cons rfl (fun K hK => ?_) (AllReadyH.cons rfl (fun K hK => ?_) (AllReadyH.cons rfl (fun K hK => ?_) (AllReadyH.cons rfl (fun K hK => ?_) (AllReadyH.cons rfl (fun K hK => ?_) AllReadyH.nil))))
  · go_simp
    refine (hD W).mono ?_
    rintro e W1 ⟨rfl, hW⟩
    refine hK.out _ _ (hS.below hW) (fun _ => ?_)
    try simp only [List.setIfInBounds_toArray, List.set]
    refine wpAnyH_take (i := 9) (v := .int .i64 P) rfl (by kernel_rfl) (by kernel_rfl) (by kernel_rfl) (fun c a w h => hN c _ a _ w h) (Or.inl ⟨by kernel_rfl, ?_⟩) (hS.below hW) ?_
    · intro w' hSw
      go_simp
    refine wpAnyH_take (i := 10) (v := .int .i64 Cp) rfl (by kernel_rfl) (by kernel_rfl) (by kernel_rfl) (fun c a w h => hN c _ a _ w h) (Or.inl ⟨by kernel_rfl, ?_⟩) (hS.below hW) ?_
    · intro w' hSw
      go_simp
    try simp only [List.setIfInBounds_toArray, List.set]
    exact tr100001 hM1 hB hQ hN W1 (hS.below hW) (hb.trans (hW.mono hb.size)) x5 (ob_keep h5 hW) l5
  · go_simp
    refine hK.out _ _ (hS.below (al_below W _)) (fun _ => ?_)
    try simp only [List.setIfInBounds_toArray, List.set]
    exact tr010001 hD hP hC hM1 hB hQ hN (W.alloc (.map #[] 0)) (hS.below (al_below W _)) (hb.trans ((al_below W _).mono hb.size)) W.heap.size (heap_alloc_new W _) hb.size x5 (ob_keep h5 (al_below W _)) l5 (Nat.ne_of_gt (ob_lt h5))
  · go_simp
    refine hK.out _ _ (hS.below (al_below W _)) (fun _ => ?_)
    try simp only [List.setIfInBounds_toArray, List.set]
    exact tr001001 hD hP hC hM1 hB hQ hN (W.alloc (.map #[] 0)) (hS.below (al_below W _)) (hb.trans ((al_below W _).mono hb.size)) W.heap.size (heap_alloc_new W _) hb.size x5 (ob_keep h5 (al_below W _)) l5 (Nat.ne_of_gt (ob_lt h5))
  · go_simp
    refine hK.out _ _ (hS.below (al_below W _)) (fun _ => ?_)
    try simp only [List.setIfInBounds_toArray, List.set]
    exact tr000101 hD hP hC hM1 hB hQ hN (W.alloc (.map #[] 0)) (hS.below (al_below W _)) (hb.trans ((al_below W _).mono hb.size)) W.heap.size (heap_alloc_new W _) hb.size x5 (ob_keep h5 (al_below W _)) l5 (Nat.ne_of_gt (ob_lt h5))
  · go_simp
    refine hK.out _ _ (hS.below (al_below W _)) (fun _ => ?_)
    try simp only [List.setIfInBounds_toArray, List.set]
    exact tr000011 hD hP hC hM1 hQ hN (W.alloc (.cells csB 4)) (hS.below (al_below W _)) (hb.trans ((al_below W _).mono hb.size)) W.heap.size (heap_alloc_new W _) hb.size x5 (ob_keep h5 (al_below W _)) l5 (Nat.ne_of_gt (ob_lt h5))

set_option maxRecDepth 100000 in
set_option maxHeartbeats 1000000 in
theorem tr000000 (W : World) (hS : GT g0 nb np sz W) (hb : Below w.heap.size w W) :
    wpAnyH Tryz.prog .any tops Q (GT g0 nb np sz) 11 #[true, true, true, true, true, true, false, true, true, false, false, false, false, false, true, true, false, true, true, false, false, false, false] ⟨#[.pointer (some ⟨cb, 0, none⟩), .int .i64 res, .int .i64 bad, undef, undef, undef, .pointer none, .pointer (some ⟨g0, 0, none⟩), .pointer (some ⟨cb, 0, none⟩), .agg #[.int .i64 nb, .int .i64 np, .int .i64 sz], .pointer (some ⟨cb, 0, none⟩), .int .i64 res, .int .i64 bad, .agg #[.int .i64 nb, .int .i64 np, .int .i64 sz], .int .i64 bad, .int .i64 res, undef, .pointer (some ⟨g0, 1, none⟩), .int .i64 np, undef, undef, undef, undef, undef, .pointer (some ⟨g0, 0, none⟩), .int .i64 nb, undef, .pointer (some ⟨g0, 0, none⟩), .int .i64 nb, undef, undef, undef], []⟩ W := by
  unfold tops
  refine wpAnyH_ready (rs := [6, 11, 12, 13, 16, 19]) (by kernel_rfl) (by simp) ?_
  refine AllReadyH.cons rfl (fun K hK => ?_) (AllReadyH.cons rfl (fun K hK => ?_) (AllReadyH.cons rfl (fun K hK => ?_) (AllReadyH.cons rfl (fun K hK => ?_) (AllReadyH.cons rfl (fun K hK => ?_) (AllReadyH.cons rfl (fun K hK => ?_) AllReadyH.nil)))))
  · go_simp
    refine (hD W).mono ?_
    rintro e W1 ⟨rfl, hW⟩
    refine hK.out _ _ (hS.below hW) (fun _ => ?_)
    try simp only [List.setIfInBounds_toArray, List.set]
    refine wpAnyH_take (i := 9) (v := .int .i64 P) rfl (by kernel_rfl) (by kernel_rfl) (by kernel_rfl) (fun c a w h => hN c _ a _ w h) (Or.inl ⟨by kernel_rfl, ?_⟩) (hS.below hW) ?_
    · intro w' hSw
      go_simp
    refine wpAnyH_take (i := 10) (v := .int .i64 Cp) rfl (by kernel_rfl) (by kernel_rfl) (by kernel_rfl) (fun c a w h => hN c _ a _ w h) (Or.inl ⟨by kernel_rfl, ?_⟩) (hS.below hW) ?_
    · intro w' hSw
      go_simp
    try simp only [List.setIfInBounds_toArray, List.set]
    exact tr100000 hM1 hB hU hQ hN W1 (hS.below hW) (hb.trans (hW.mono hb.size))
  · go_simp
    refine hK.out _ _ (hS.below (al_below W _)) (fun _ => ?_)
    try simp only [List.setIfInBounds_toArray, List.set]
    exact tr010000 hD hP hC hM1 hB hU hQ hN (W.alloc (.map #[] 0)) (hS.below (al_below W _)) (hb.trans ((al_below W _).mono hb.size)) W.heap.size (heap_alloc_new W _) hb.size
  · go_simp
    refine hK.out _ _ (hS.below (al_below W _)) (fun _ => ?_)
    try simp only [List.setIfInBounds_toArray, List.set]
    exact tr001000 hD hP hC hM1 hB hU hQ hN (W.alloc (.map #[] 0)) (hS.below (al_below W _)) (hb.trans ((al_below W _).mono hb.size)) W.heap.size (heap_alloc_new W _) hb.size
  · go_simp
    refine hK.out _ _ (hS.below (al_below W _)) (fun _ => ?_)
    try simp only [List.setIfInBounds_toArray, List.set]
    exact tr000100 hD hP hC hM1 hB hU hQ hN (W.alloc (.map #[] 0)) (hS.below (al_below W _)) (hb.trans ((al_below W _).mono hb.size)) W.heap.size (heap_alloc_new W _) hb.size
  · go_simp
    refine hK.out _ _ (hS.below (al_below W _)) (fun _ => ?_)
    try simp only [List.setIfInBounds_toArray, List.set]
    exact tr000010 hD hP hC hM1 hU hQ hN (W.alloc (.cells csB 4)) (hS.below (al_below W _)) (hb.trans ((al_below W _).mono hb.size)) W.heap.size (heap_alloc_new W _) hb.size
  · go_simp
    refine hK.out _ _ (hS.below (al_below W _)) (fun _ => ?_)
    try simp only [List.setIfInBounds_toArray, List.set]
    exact tr000001 hD hP hC hM1 hB hQ hN (W.alloc (.cells csU 87)) (hS.below (al_below W _)) (hb.trans ((al_below W _).mono hb.size)) W.heap.size (heap_alloc_new W _) hb.size
end
end Go.Proofs.YtbfifppdcmimaaaGreat
