/-
  What To answers in one sentence, and the fixed calls that each statement on inode ends with.
-/
import Derived.Test.YtladgfonkolpmaaInoRefTo
import Derived.Test.YtladgfonkolpmaaBlk
namespace Go.Proofs.Ytladgfonkolpmaa
open Go.RowKit Crcm Tagm Inom Go.ChangeShapes

/-- a way's numbers, or 0 where there is none -/
def tl (s n : Int) : Int := if toE s n = 0 then lv s n else 0
def tf (s n : Int) : Int := if toE s n = 0 then fi s n else 0
def tc (s n : Int) : Int := if toE s n = 0 then se s n else 0

theorem to_any (s n : Int) (w : World) : Calls Try.prog 36 #[.int .i64 s, .int .i64 n] w fun e w' => e = .returned (.tuple #[wy (tl s n) (tf s n) (tc s n), .int .i64 (toE s n)]) ∧ Below w.heap.size w w' := by
  unfold tl tf tc
  by_cases h : Sz s
  · by_cases h2 : n < 0 ∨ pgs s ≤ n
    · rw [toE_index h h2]; exact to_index s n w h h2
    · rw [toE_ok h h2, if_pos rfl, if_pos rfl, if_pos rfl]; exact to_ok s n w h (by omega) (by omega)
  · rw [toE_size h]; exact to_size s n w h
theorem refto_any (s n : Int) (w : World) : Calls Try.prog 51 #[.int .i64 s, .int .i64 n] w fun e w' => e = .returned (.tuple #[wy (tl s n) (tf s n) (tc s n), .int .i64 (toE s n)]) ∧ Below w.heap.size w w' := by
  unfold tl tf tc
  by_cases h : Sz s
  · by_cases h2 : n < 0 ∨ pgs s ≤ n
    · rw [toE_index h h2]; exact refto_index s n w h h2
    · rw [toE_ok h h2, if_pos rfl, if_pos rfl, if_pos rfl]; exact refto_ok s n w h (by omega) (by omega)
  · rw [toE_size h]; exact refto_size s n w h

/-- an inode, by value -/
structure Ind where
  (k l s d0 d1 d2 d3 d4 d5 sg db : Int)
  deriving DecidableEq
def iv (i : Ind) : Value := .agg #[.int .i64 i.k, .int .i64 i.l, .int .i64 i.s, .int .i64 i.d0, .int .i64 i.d1, .int .i64 i.d2, .int .i64 i.d3, .int .i64 i.d4, .int .i64 i.d5, .int .i64 i.sg, .int .i64 i.db]

set_option maxRecDepth 100000 in
set_option maxHeartbeats 1000000 in
theorem right_l1 (w : World) : Calls Try.prog 59 #[.agg #[.int .i64 0, .int .i64 1, .int .i64 0, .int .i64 0, .int .i64 0, .int .i64 0, .int .i64 0, .int .i64 0, .int .i64 0, .int .i64 0, .int .i64 0]] w fun e w' => e = .returned (.bool false) ∧ Below w.heap.size w w' := by
  go_enter Try.func59, Try.ntmps59
  go_wp2
  go_ret
  exact ⟨rfl, by first | exact (Below.refl _ _).alloc (Nat.le_refl _) _ | exact ((Below.refl _ _).alloc (Nat.le_refl _) _).drew⟩
set_option maxRecDepth 100000 in
set_option maxHeartbeats 1000000 in
theorem write_l1 (w : World) : Calls Try.prog 37 #[.agg #[.int .i64 0, .int .i64 1, .int .i64 0, .int .i64 0, .int .i64 0, .int .i64 0, .int .i64 0, .int .i64 0, .int .i64 0, .int .i64 0, .int .i64 0]] w fun e w' => e = .returned (.tuple #[.slice none 0 0, .int .i64 51]) ∧ Below w.heap.size w w' := by
  go_enter Try.func37, Try.ntmps37
  go_wp2_with fail
  refine (right_l1 _).mono ?_
  rintro e w1 ⟨rfl, hb1⟩
  go_wp2
  go_ret2
  exact ⟨rfl, ((Below.refl _ _).alloc (Nat.le_refl _) _).trans (hb1.mono (by simp))⟩

theorem k1 : tl 64 38 = 2 ∧ tf 64 38 = 0 ∧ tc 64 38 = 0 ∧ toE 64 38 = 0 := by decide
theorem k2 : tl 64 1062 = 0 ∧ tf 64 1062 = 0 ∧ tc 64 1062 = 0 ∧ toE 64 1062 = 52 := by decide
theorem k3 : per 64 = 2 ∧ most 64 = 67968 := by decide

set_option maxRecDepth 100000 in
set_option maxHeartbeats 1000000 in
theorem iknown_any (w : World) : Calls Try.prog 11 #[] w fun e w' => e = .returned (.bool true) ∧ Below w.heap.size w w' := by
  have C1 := Lib.hid (fun w => to_any 64 38 w)
  have C2 := Lib.hid (fun w => to_any 64 1062 w)
  have C3 := Lib.hid (fun w => per_any 64 w)
  have C4 := Lib.hid (fun w => most_any 64 w)
  rw [k1.1, k1.2.1, k1.2.2.1, k1.2.2.2] at C1
  rw [k2.1, k2.2.1, k2.2.2.1, k2.2.2.2] at C2
  rw [k3.1] at C3
  rw [k3.2] at C4
  unfold wy at C1 C2
  go_enter Try.func11, Try.ntmps11
  go_wp2_with fail
  refine (C1.out _).mono ?_
  rintro e w1 ⟨rfl, hb1⟩
  have a0 := Blk.new w1 59 #[.int .i64 2, .int .i64 0, .int .i64 0]
  have A0 := Lib.hid a0
  have B0 : Hid (Below w.heap.size w (w1.alloc (.cells #[.int .i64 2, .int .i64 0, .int .i64 0] 59))) := Lib.hid (hb1.alloc hb1.size _)
  clear a0 hb1
  go_wp2_with fail
  refine (C2.out _).mono ?_
  rintro e w2 ⟨rfl, hb2⟩
  have A1 := Lib.hid ((A0.out.below hb2 (by simp)).alloc (.cells #[.int .i64 0, .int .i64 0, .int .i64 0] 59))
  have B1 : Hid (Below w.heap.size w (w2.alloc (.cells #[.int .i64 0, .int .i64 0, .int .i64 0] 59))) := Lib.hid ((B0.out.trans (hb2.mono B0.out.size)).alloc (B0.out.trans (hb2.mono B0.out.size)).size _)
  clear hb2 A0 B0
  go_wp2_with fail
  refine (write_l1 _).mono ?_
  rintro e w3 ⟨rfl, hb3⟩
  have A2 := A1.out.below hb3 A1.out.lt
  have B2 := Lib.hid (B1.out.trans (hb3.mono B1.out.size))
  have c0 := A2.cell 0
  have c1 := A2.cell 1
  have c2 := A2.cell 2
  simp only [List.getElem?_toArray, List.getElem?_cons_zero, List.getElem?_cons_succ] at c0 c1 c2
  clear A1 A2 B1 hb3
  go_wp2_with fail
  refine (C3.out _).mono ?_
  rintro e w' ⟨rfl, rfl⟩
  go_wp2_with fail
  refine (C4.out _).mono ?_
  rintro e w' ⟨rfl, rfl⟩
  go_wp2
  go_ret
  exact ⟨rfl, B2.out⟩

end Go.Proofs.Ytladgfonkolpmaa
