/-
  How many bad blocks more a manager bears, where its numbers are small. Nothing of one statement alone stands here.
-/
import Derived.Test.YtbfifppdcmimaaaGreatKM
namespace Go.Proofs.YtbfifppdcmimaaaGreat
open Go.RowKit Crcm Gcm Go.ChangeShapes

set_option maxRecDepth 100000 in
set_option maxHeartbeats 1000000 in
theorem bleft_small {w : World} {M : Nat} {m : Mg} (h : MgAt w M m) (z : Int) (hz : cnt 4 m.l m.l.length = z) (hz2 : 0 ≤ z ∧ z ≤ 1000) (hr : 0 ≤ m.r ∧ m.r ≤ 100000) (hb : 0 ≤ m.b ∧ m.b ≤ 100000) :
    Calls Tryz.prog 46 #[.pointer (some ⟨M, 0, none⟩)] w fun e w' => e = .returned (.int .i64 (m.r - (z - m.b))) ∧ Below w.heap.size w w' := by
  obtain ⟨-, c1, c2, c3, -⟩ := h.cells
  have HC := Lib.hid (fun q : Later w => later_below (count_any m.l (some ⟨m.g, 0, none⟩) m.cap m.l.length 4 q.to (h.rg.below q.bel) rfl))
  rw [hz] at HC
  have f1 := fun q : Later w => q.cell c1
  have f3 := fun q : Later w => q.cell c3
  have f2 := fun q : Later w => q.cell c2
  generalize m.b = b at *
  generalize m.r = r at *
  generalize m.l.length = n at *
  clear h hz c1 c2 c3
  by_cases hm : z - b < 0
  · have t0 : decide (z - b < 0) = true := decide_eq_true hm
    have t1 : decide (9223372036854775807 + (z - b) < r) = false := decide_eq_false (by omega)
    go_enter Tryz.func46, Tryz.ntmps46
    go_wp2_with fail
    refine wp_region_later (by kernel_rfl) (by kernel_rfl) ?_
    repeat (go_big_quiet_step (with_reducible first | exact HC.out _))
    refine wpQuiet_nil ?_
    rintro _ ⟨q, rfl⟩
    have g2 := f2 q
    go_wp2
    go_ret
    exact ⟨rfl, q.bel⟩
  · have t0 : decide (z - b < 0) = false := decide_eq_false hm
    go_enter Tryz.func46, Tryz.ntmps46
    go_wp2_with fail
    refine wp_region_later (by kernel_rfl) (by kernel_rfl) ?_
    repeat (go_big_quiet_step (with_reducible first | exact HC.out _))
    refine wpQuiet_nil ?_
    rintro _ ⟨q, rfl⟩
    have g2 := f2 q
    go_wp2
    go_ret
    exact ⟨rfl, q.bel⟩
end Go.Proofs.YtbfifppdcmimaaaGreat
