/-
  The fixed calls that each statement on gc ends with, and how long a row may be. Nothing of one statement alone stands here.
-/
import Derived.Test.YtoakgogngcmneaaGcDoes
import Derived.Laws.StructEq
namespace Go.Proofs.Ytoakgogngcmneaa
open Go.RowKit Gcm Go.ChangeShapes

set_option maxHeartbeats 400000 in
theorem long_any (n : Nat) (a : Option Addr) (cap : Nat) (w : World) :
    Calls Try.prog 28 #[.slice a n cap] w fun e w' => e = .returned (.bool (decide (150 < n))) ∧ w = w' := by
  go_enter Try.func28, Try.ntmps28
  go_wp2
  go_ret
  exact ⟨gbool (by simp; omega), rfl⟩

theorem n1 : nxt [⟨3, 0, 3, 0⟩, ⟨3, 0, 2, 0⟩] 4 true = (1, 1) := by decide
theorem n2 : nxt [⟨3, 0, 4, 0⟩, ⟨0, 0, 0, 0⟩] 4 true = (3, 1) := by decide
theorem n3 : nxt [] 4 true = (0, -1) := by decide

theorem rg_two {w : World} {g : Nat} {t : TypeId} {x y : Bk} (h : Blk w g t #[.int .i64 x.st, .int .i64 x.lv, .int .i64 x.wr, .int .i64 x.nx, .int .i64 y.st, .int .i64 y.lv, .int .i64 y.wr, .int .i64 y.nx]) (hx : Bw x) (hy : Bw y) : Rg w (some ⟨g, 0, none⟩) [x, y] := by
  refine ⟨fun z hz => ?_, by unfold maxLen; simp, .inr ⟨g, 0, rfl, fun j hj => ?_⟩⟩
  · simp at hz; rcases hz with rfl | rfl <;> assumption
  · match j, hj with
    | 0, _ => exact ⟨h.cell 0, h.cell 1, h.cell 2, h.cell 3⟩
    | 1, _ => exact ⟨h.cell 4, h.cell 5, h.cell 6, h.cell 7⟩
    | j + 2, hj => simp at hj; omega

set_option maxRecDepth 100000 in
set_option maxHeartbeats 1000000 in
theorem known_any (w : World) : Calls Try.prog 29 #[] w fun e w' => e = .returned (.bool true) ∧ Below w.heap.size w w' := by
  obtain ⟨W, hW⟩ : ∃ W, (w.alloc (.cells #[.int .i64 3, .int .i64 0, .int .i64 3, .int .i64 0, .int .i64 3, .int .i64 0, .int .i64 2, .int .i64 0] 60)).alloc (.cells #[.int .i64 3, .int .i64 0, .int .i64 4, .int .i64 0, .int .i64 0, .int .i64 0, .int .i64 0, .int .i64 0] 60) = W := ⟨_, rfl⟩
  have B0 : Blk W w.heap.size 60 #[.int .i64 3, .int .i64 0, .int .i64 3, .int .i64 0, .int .i64 3, .int .i64 0, .int .i64 2, .int .i64 0] := by rw [← hW]; exact (Blk.new w _ _).alloc _
  have B1 : Blk W (w.heap.size + 1) 60 #[.int .i64 3, .int .i64 0, .int .i64 4, .int .i64 0, .int .i64 0, .int .i64 0, .int .i64 0, .int .i64 0] := by
    have := Blk.new (w.alloc (.cells #[.int .i64 3, .int .i64 0, .int .i64 3, .int .i64 0, .int .i64 3, .int .i64 0, .int .i64 2, .int .i64 0] 60)) 60 #[.int .i64 3, .int .i64 0, .int .i64 4, .int .i64 0, .int .i64 0, .int .i64 0, .int .i64 0, .int .i64 0]
    rw [hW] at this
    simpa using this
  have BB : Hid (Below w.heap.size w W) := Lib.hid (by rw [← hW]; exact ((Below.refl _ w).alloc (Nat.le_refl _) _).alloc (by simp) _)
  have R0 := Lib.hid (rg_two (x := ⟨3, 0, 3, 0⟩) (y := ⟨3, 0, 2, 0⟩) B0 (by unfold Bw I64; decide) (by unfold Bw I64; decide))
  have R1 := Lib.hid (rg_two (x := ⟨3, 0, 4, 0⟩) (y := ⟨0, 0, 0, 0⟩) B1 (by unfold Bw I64; decide) (by unfold Bw I64; decide))
  have C0 := Lib.hid (fun W' (hb : Below W.heap.size W W') => next_any _ _ 2 2 4 true W' (R0.out.below hb) rfl)
  have C1 := Lib.hid (fun W' (hb : Below W.heap.size W W') => next_any _ _ 2 2 4 true W' (R1.out.below hb) rfl)
  have C2 := Lib.hid (fun W' => next_any [] none 0 0 4 true W' Rg.nil rfl)
  rw [n1] at C0
  rw [n2] at C1
  rw [n3] at C2
  unfold av at C0 C1 C2
  have HW := Lib.hid hW
  clear B0 B1 R0 R1 hW
  go_enter Try.func29, Try.ntmps29
  go_wp2_with fail
  rw [HW.out]
  refine (C0.out _ (Below.refl _ _)).mono ?_
  rintro e w1 ⟨rfl, hb1⟩
  have K1 := Lib.hid hb1
  clear hb1
  go_wp2_with fail
  refine (C1.out _ K1.out).mono ?_
  rintro e w2 ⟨rfl, hb2⟩
  have K2 := Lib.hid (K1.out.trans (hb2.mono K1.out.size))
  clear hb2
  go_wp2_with fail
  refine (C2.out _).mono ?_
  rintro e w3 ⟨rfl, hb3⟩
  have K3 := Lib.hid (K2.out.trans (hb3.mono K2.out.size))
  clear hb3
  go_wp2
  go_ret
  exact ⟨rfl, BB.out.trans (K3.out.mono BB.out.size)⟩
end Go.Proofs.Ytoakgogngcmneaa
