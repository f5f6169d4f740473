/-
  The statements that a page's way is what the document says, and that ways go on without a gap.
-/
import Derived.Test.YtolahkfjlifnoaaInoKnown
namespace Go.Proofs.Ytolahkfjlifnoaa
open Go.RowKit Crcm Tagm Inom Go.ChangeShapes

set_option maxRecDepth 100000 in
set_option maxHeartbeats 1000000 in
theorem inodeWays_walk (s n : Int) (w : World) (_w0 : (Lit.int .i64 s).wf = true) (_w1 : (Lit.int .i64 n).wf = true) :
    Calls Try.prog 5 #[.int .i64 s, .int .i64 n] w fun e w' => e = .returned (.bool true) ∧ Below w.heap.size w w' := by
  have C1 := Lib.hid (fun w => to_any s n w)
  have C2 := Lib.hid (fun w => refto_any s n w)
  have C3 := Lib.hid (fun w => most_any s w)
  have C4 := Lib.hid (fun w => refmost_any s w)
  clear _w0 _w1
  unfold wy at C1 C2
  generalize tl s n = a at C1 C2
  generalize tf s n = b at C1 C2
  generalize tc s n = c at C1 C2
  generalize toE s n = f at C1 C2
  generalize most s = m at C3 C4
  go_enter Try.func5, Try.ntmps5
  go_wp2_with fail
  refine (C1.out _).mono ?_
  rintro e w1 ⟨rfl, hb1⟩
  have A0 := Lib.hid (Blk.new w1 41 #[.int .i64 a, .int .i64 b, .int .i64 c])
  have B0 : Hid (Below w.heap.size w (w1.alloc (.cells #[.int .i64 a, .int .i64 b, .int .i64 c] 41))) := Lib.hid (hb1.alloc hb1.size _)
  clear hb1
  go_wp2_with fail
  refine (C2.out _).mono ?_
  rintro e w2 ⟨rfl, hb2⟩
  have A1 := ((A0.out.below hb2 (by simp)).alloc (.cells #[.int .i64 a, .int .i64 b, .int .i64 c] 44))
  have B1 : Hid (Below w.heap.size w (w2.alloc (.cells #[.int .i64 a, .int .i64 b, .int .i64 c] 44))) := Lib.hid ((B0.out.trans (hb2.mono B0.out.size)).alloc (B0.out.trans (hb2.mono B0.out.size)).size _)
  have c0 := A1.cell 0
  have c1 := A1.cell 1
  have c2 := A1.cell 2
  have d0 := (Blk.new w2 44 #[.int .i64 a, .int .i64 b, .int .i64 c]).cell 0
  have d1 := (Blk.new w2 44 #[.int .i64 a, .int .i64 b, .int .i64 c]).cell 1
  have d2 := (Blk.new w2 44 #[.int .i64 a, .int .i64 b, .int .i64 c]).cell 2
  simp only [List.getElem?_toArray, List.getElem?_cons_zero, List.getElem?_cons_succ] at c0 c1 c2 d0 d1 d2
  clear hb2 A0 B0 A1
  go_wp2_with fail
  refine (C3.out _).mono ?_
  rintro e w' ⟨rfl, rfl⟩
  go_wp2_with fail
  refine (C4.out _).mono ?_
  rintro e w' ⟨rfl, rfl⟩
  clear c0 c1 c2 d0 d1 d2
  go_wp2_with fail
  refine (iknown_any _).mono ?_
  rintro e w' ⟨rfl, hb3⟩
  go_wp2
  go_ret
  exact ⟨rfl, B1.out.trans (hb3.mono B1.out.size)⟩

end Go.Proofs.Ytolahkfjlifnoaa
