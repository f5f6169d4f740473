/-
  Whether nothing can be written any more. Nothing of one statement alone stands here.
-/
import Derived.Test.YtbfifppdcmimaaaGreatFtLeft
import Derived.Test.YtbfifppdcmimaaaGreatKI
import Derived.Test.YtbfifppdcmimaaaGreatKA
import Derived.Deep.CutBlock
import Derived.Deep.CutRange
import Derived.Deep.DeepCutAuto
namespace Go.Proofs.YtbfifppdcmimaaaGreat
open Go.RowKit Crcm Gcm Go.ChangeShapes

set_option maxRecDepth 100000 in
set_option maxHeartbeats 1000000 in
theorem freadOnly_any {w : World} {M F : Nat} {m : Mg} (h : MgAt w M m) (z : Int) (hz : cnt 4 m.l m.l.length = z) (hz2 : 0 ≤ z ∧ z ≤ 1000) (hr : 0 ≤ m.r ∧ m.r ≤ 100000) (hb : 0 ≤ m.b ∧ m.b ≤ 100000) {st : Bool} {fa : Option Addr} {nf cf : Nat}
    (h1 : w.cell? ⟨F, 1, none⟩ = some (.pointer (some ⟨M, 0, none⟩))) (h6 : w.cell? ⟨F, 6, none⟩ = some (.bool st)) (h15 : w.cell? ⟨F, 15, none⟩ = some (.slice fa nf cf)) :
    Calls Tryz.prog 16 #[.pointer (some ⟨F, 0, none⟩)] w fun e w' => e = .returned (.bool (st || decide (m.r - (z - m.b) < nf))) ∧ Below w.heap.size w w' := by
  have HC := Lib.hid (fun q : Later w => later_below (bleft_small (h.below q.bel) z hz hz2 hr hb))
  have l1 := fun q : Later w => q.cell h1
  have l6 := fun q : Later w => q.cell h6
  have l15 := fun q : Later w => q.cell h15
  generalize m.r - (z - m.b) = L at HC ⊢
  clear h hz hz2 hr hb h1 h6 h15
  cases st
  · go_enter Tryz.func16, Tryz.ntmps16
    go_upto_region 1 with (fail)
    refine wp_region_later (by kernel_rfl) (by kernel_rfl) ?_
    repeat (go_big_quiet_step (with_reducible first | exact HC.out _))
    refine wpQuiet_nil ?_
    rintro _ ⟨q, rfl⟩
    go_wp2
    go_ret
    exact ⟨by rw [Bool.false_or]; rfl, q.bel⟩
  · go_enter Tryz.func16, Tryz.ntmps16
    go_upto_region 1 with (fail)
    refine wp_region_later (by kernel_rfl) (by kernel_rfl) ?_
    repeat (go_big_quiet_step (with_reducible first | exact HC.out _))
    refine wpQuiet_nil ?_
    rintro _ ⟨q, rfl⟩
    go_wp2
    go_ret
    exact ⟨by rw [Bool.true_or]; rfl, q.bel⟩
end Go.Proofs.YtbfifppdcmimaaaGreat
