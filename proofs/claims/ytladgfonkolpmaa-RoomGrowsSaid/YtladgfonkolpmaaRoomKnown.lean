/-
  The fixed calls that each statement on room ends with.
-/
import Derived.Test.YtladgfonkolpmaaRoomDir
import Derived.Test.YtladgfonkolpmaaRoomRefD
import Derived.Test.YtladgfonkolpmaaAmongB
namespace Go.Proofs.Ytladgfonkolpmaa
open Go.RowKit Crcm Tagm Inom Roomm Go.ChangeShapes

theorem kn1 : fN 64 [38, 70] = 5 ∧ fE 64 [38, 70] = 0 := by decide +kernel
theorem kn2 : fN 64 [3, 3] = 0 ∧ fE 64 [3, 3] = 1 := by decide +kernel
theorem kn3 : dN 64 5 = 2 ∧ dE 64 5 = 0 := by decide +kernel
theorem kn4 : plan 64 102 = ly 2 3 36 4 ∧ plE 64 102 = 0 := by
  have h : plE 64 102 = 0 := by decide +kernel
  refine ⟨?_, h⟩
  rw [plan_ok h]
  have h1 : tb 102 = 2 := by decide +kernel
  rw [h1]; rfl

theorem ri_two (w : World) (x y : Int) (hx : I64 x) (hy : I64 y) : Ri (w.alloc (.cells #[.int .i64 x, .int .i64 y] 3)) (some ⟨w.heap.size, 0, none⟩) [x, y] := by
  refine ⟨fun n hn => by rcases List.mem_cons.1 hn with rfl | hn; exact hx; rw [List.mem_singleton.1 hn]; exact hy, by simp [maxLen], .inr ⟨_, 0, rfl, fun j hj => ?_⟩⟩
  have hB := Blk.new w 3 #[.int .i64 x, .int .i64 y]
  match j, hj with
  | 0, _ => exact hB.cell 0
  | 1, _ => exact hB.cell 1

theorem k_file (x y a b : Int) (hx : I64 x) (hy : I64 y) (h : fN 64 [x, y] = a ∧ fE 64 [x, y] = b) (w : World) (g : Nat) (hg : g = w.heap.size) : Calls Try.prog 24 #[.int .i64 64, .slice (some ⟨g, 0, none⟩) 2 2] (w.alloc (.cells #[.int .i64 x, .int .i64 y] 3)) fun e w' =>
    e = .returned (.tuple #[.int .i64 a, .int .i64 b]) ∧ Below (w.alloc (.cells #[.int .i64 x, .int .i64 y] 3)).heap.size (w.alloc (.cells #[.int .i64 x, .int .i64 y] 3)) w' := by
  subst hg
  have := file_any 64 [x, y] (some ⟨w.heap.size, 0, none⟩) 2 2 (w.alloc (.cells #[.int .i64 x, .int .i64 y] 3)) (ri_two w x y hx hy) rfl (by omega)
  rwa [h.1, h.2] at this
theorem k_dir (w : World) : Calls Try.prog 26 #[.int .i64 64, .int .i64 5] w fun e w' => e = .returned (.tuple #[.int .i64 2, .int .i64 0]) ∧ Below w.heap.size w w' := by
  have h := kn3
  generalize hk : (5 : Int) = k at h ⊢
  have := dir_any 64 k w (by omega)
  rwa [h.1, h.2] at this
theorem k_plan (w : World) : Calls Try.prog 21 #[.int .i64 64, .int .i64 102] w fun e w' => e = .returned (.tuple #[.agg #[.int .i64 2, .int .i64 3, .int .i64 36, .int .i64 4], .int .i64 0]) ∧ Below w.heap.size w w' := by
  have h := kn4
  generalize hk : (102 : Int) = k at h ⊢
  have := plan_any 64 k w
  rwa [h.1, h.2] at this

set_option maxRecDepth 100000 in
set_option maxHeartbeats 2000000 in
theorem rknown_any (w : World) : Calls Try.prog 23 #[] w fun e w' => e = .returned (.bool true) ∧ Below w.heap.size w w' := by
  have H1 := Lib.hid (k_file 38 70 5 0 (by unfold I64; omega) (by unfold I64; omega) kn1 w w.heap.size rfl)
  have H2 := Lib.hid k_dir
  have H3 := Lib.hid k_plan
  have H4 := Lib.hid (fun w g hg => k_file 3 3 0 1 (by unfold I64; omega) (by unfold I64; omega) kn2 w g hg)
  go_enter Try.func23, Try.ntmps23
  go_wp2_with fail
  refine H1.out.mono ?_
  rintro e w1 ⟨rfl, hb⟩
  have B1 : Hid (Below w.heap.size w w1) := Lib.hid (((Below.refl _ w).alloc (Nat.le_refl _) _).trans (hb.mono (by simp)))
  clear hb H1
  go_wp2_with fail
  refine (H2.out _).mono ?_
  rintro e w2 ⟨rfl, hb⟩
  have B2 := Lib.hid (B1.out.trans (hb.mono B1.out.size))
  clear hb H2 B1
  go_wp2_with fail
  refine (H3.out _).mono ?_
  rintro e w3 ⟨rfl, hb⟩
  have B3 := Lib.hid (B2.out.trans (hb.mono B2.out.size))
  have B4 : Hid (Below w.heap.size w ((w3.alloc (.cells #[.int .i64 2, .int .i64 3, .int .i64 36, .int .i64 4] 41)).alloc (.cells #[.int .i64 3, .int .i64 3] 3))) := Lib.hid ((B3.out.alloc B3.out.size _).alloc (by have := B3.out.size; simp; omega) _)
  have K4 : Hid (Blk ((w3.alloc (.cells #[.int .i64 2, .int .i64 3, .int .i64 36, .int .i64 4] 41)).alloc (.cells #[.int .i64 3, .int .i64 3] 3)) w3.heap.size 41 #[.int .i64 2, .int .i64 3, .int .i64 36, .int .i64 4]) := Lib.hid ((Blk.new w3 _ _).alloc _)
  clear hb H3 B2 B3
  go_wp2_with fail
  refine (H4.out _ _ (by simp)).mono ?_
  rintro e w5 ⟨rfl, hb⟩
  have B5 := Lib.hid (B4.out.trans (hb.mono B4.out.size))
  have K5 := K4.out.below hb K4.out.lt
  have c0 := K5.cell 0
  have c1 := K5.cell 1
  have c2 := K5.cell 2
  have c3 := K5.cell 3
  simp only [List.getElem?_toArray, List.getElem?_cons_zero, List.getElem?_cons_succ] at c0 c1 c2 c3
  clear hb H4 K4 K5 B4
  go_wp2
  go_ret
  exact ⟨rfl, B5.out⟩

set_option maxRecDepth 100000 in
set_option maxHeartbeats 2000000 in
theorem roomPlans_walk (s c : Int) (w : World) (_w0 : (Lit.int .i64 s).wf = true) (_w1 : (Lit.int .i64 c).wf = true) :
    Calls Try.prog 4 #[.int .i64 s, .int .i64 c] w fun e w' => e = .returned (.bool true) ∧ Below w.heap.size w w' := by
  have C1 := Lib.hid (fun w => plan_any s c w)
  have C2 := Lib.hid (fun w => refplan_any s c w)
  unfold plan ly at C1 C2
  generalize p0 s c = a0 at C1 C2
  generalize p1 s c = a1 at C1 C2
  generalize p2 s c = a2 at C1 C2
  generalize p3 s c = a3 at C1 C2
  generalize plE s c = f at C1 C2
  clear _w0 _w1
  go_enter Try.func4, Try.ntmps4
  go_wp2_with fail
  refine (C1.out _).mono ?_
  rintro e w1 ⟨rfl, hb⟩
  have B1 : Hid (Below w.heap.size w (w1.alloc (.cells #[.int .i64 a0, .int .i64 a1, .int .i64 a2, .int .i64 a3] 41))) := Lib.hid (hb.alloc hb.size _)
  have K1 := Lib.hid (Blk.new w1 41 #[.int .i64 a0, .int .i64 a1, .int .i64 a2, .int .i64 a3])
  clear hb C1
  go_wp2_with fail
  refine (C2.out _).mono ?_
  rintro e w2 ⟨rfl, hb⟩
  have B2 := Lib.hid (B1.out.trans (hb.mono B1.out.size))
  have B3 : Hid (Below w.heap.size w (w2.alloc (.cells #[.int .i64 a0, .int .i64 a1, .int .i64 a2, .int .i64 a3] 44))) := Lib.hid (B2.out.alloc B2.out.size _)
  have K2 := K1.out.below hb K1.out.lt
  have K3 := K2.alloc (.cells #[.int .i64 a0, .int .i64 a1, .int .i64 a2, .int .i64 a3] 44)
  have N3 := Blk.new w2 44 #[.int .i64 a0, .int .i64 a1, .int .i64 a2, .int .i64 a3]
  have c0 := K3.cell 0
  have c1 := K3.cell 1
  have c2 := K3.cell 2
  have c3 := K3.cell 3
  have b0 := K2.cell 0
  have b1 := K2.cell 1
  have b2 := K2.cell 2
  have b3 := K2.cell 3
  have d0 := N3.cell 0
  have d1 := N3.cell 1
  have d2 := N3.cell 2
  have d3 := N3.cell 3
  simp only [List.getElem?_toArray, List.getElem?_cons_zero, List.getElem?_cons_succ] at c0 c1 c2 c3 d0 d1 d2 d3 b0 b1 b2 b3
  clear hb C2 K1 K2 K3 N3
  go_wp2_with fail
  refine (rknown_any _).mono ?_
  rintro e w4 ⟨rfl, hb4⟩
  go_wp2
  go_ret
  exact ⟨rfl, B3.out.trans (hb4.mono B3.out.size)⟩

end Go.Proofs.Ytladgfonkolpmaa
