/-
  What may be erased: the document's answer. Nothing of one statement alone stands here.
-/
import Derived.Test.YtoakgogngcmneaaGcRef
import Derived.Test.YtoakgogngcmneaaGcRefR
import Derived.Test.YtoakgogngcmneaaGcLeast
namespace Go.Proofs.Ytoakgogngcmneaa
open Go.RowKit Gcm Go.ChangeShapes

set_option maxRecDepth 100000 in
set_option maxHeartbeats 400000 in
theorem refMay_any (l : List Bk) (a : Option Addr) (cap n : Nat) (p k : Int) (w : World) (hr : Rg w a l) (hl : l.length = n) :
    Calls Try.prog 41 #[.slice a n cap, .int .i64 p, .int .i64 k] w fun e w' => e = .returned (.bool (mayAt l p k)) ∧ Below w.heap.size w w' := by
  have HR := Lib.hid (fun m : Later w => later_below (refRight_any l a cap n p m.to (hr.below m.bel) hl))
  by_cases hRt : Rt l p
  · rw [decide_eq_true hRt] at HR
    by_cases h0 : k < 0
    · have e1 := Lib.hid (mayAt_out (l := l) (p := p) (.inl h0))
      have t0 : decide (0 ≤ k) = false := by simp; omega
      clear hr hRt
      go_enter Try.func41, Try.ntmps41
      go_wp2_with fail
      refine wp_region_later (by kernel_rfl) (by kernel_rfl) ?_
      repeat (go_big_quiet_step (with_reducible first | exact HR.out _))
      refine wpQuiet_nil ?_
      rintro _ ⟨m, rfl⟩
      go_wp2
      go_ret
      exact ⟨gbool e1.out.symm, m.bel⟩
    · obtain ⟨q, rfl⟩ : ∃ q : Nat, k = q := ⟨k.toNat, by omega⟩
      have t0 : decide ((0 : Int) ≤ (q : Int)) = true := by simp
      by_cases hq : q < n
      · have hql : q < l.length := by omega
        have t1 : decide ((q : Int) < (n : Int)) = true := by simp; omega
        have HLe := Lib.hid (fun m : Later w => later_same (refLeast_any l a cap n m.to (hr.below m.bel) hl))
        have e1 := Lib.hid (mayAt_in hRt hql)
        have hx := hRt.2 _ (getB_mem l q hql)
        have hlb := least_bounds l p hRt
        have hw4 : wrap64 (least l + 4) = least l + 4 := IntWalk.wrap64_in _ ⟨by omega, by omega⟩
        rcases hr.2.2 with rfl | ⟨b, off, rfl, hc⟩
        · simp at hql
        obtain ⟨c0, c1, c2, c3⟩ := hc q hql
        generalize l[q]! = x at e1 c0 c1 c2 c3
        generalize least l = le at HLe e1 hw4
        obtain ⟨st, lv, wr, nx⟩ := x
        have f0 := fun m : Later w => m.cell c0
        have f2 := fun m : Later w => m.cell c2
        have e2 : may le ⟨st, lv, wr, nx⟩ = (st != 4 && decide (wr - le < 4)) := rfl
        have e4 : decide (wr - le < 4) = decide (wr < le + 4) := by
          by_cases h : wr < le + 4
          · rw [decide_eq_true h, decide_eq_true (by omega)]
          · rw [decide_eq_false h, decide_eq_false (by omega)]
        rw [e2, e4] at e1
        have e3 := Lib.hid e1.out
        clear hr hRt hx hc c0 c1 c2 c3 e1 e2 e4 h0 hlb
        cases h4 : st != 4 with
        | false =>
          rw [h4] at e3
          go_enter Try.func41, Try.ntmps41
          go_wp2_with fail
          refine wp_region_later (by kernel_rfl) (by kernel_rfl) ?_
          repeat (go_big_quiet_step (with_reducible first | exact HR.out _ | exact HLe.out _))
          refine wpQuiet_nil ?_
          rintro _ ⟨m, rfl⟩
          go_wp2
          go_ret
          exact ⟨gbool e3.out.symm, m.bel⟩
        | true =>
          rw [h4, Bool.true_and] at e3
          go_enter Try.func41, Try.ntmps41
          go_wp2_with fail
          refine wp_region_later (by kernel_rfl) (by kernel_rfl) ?_
          repeat (go_big_quiet_step (with_reducible first | exact HR.out _ | exact HLe.out _))
          refine wpQuiet_nil ?_
          rintro _ ⟨m, rfl⟩
          go_wp2
          go_ret
          exact ⟨gbool e3.out.symm, m.bel⟩
      · have e1 := Lib.hid (mayAt_out (l := l) (p := p) (k := q) (.inr (by omega)))
        have t1 : decide ((q : Int) < (n : Int)) = false := by simp; omega
        clear hr hRt
        go_enter Try.func41, Try.ntmps41
        go_wp2_with fail
        refine wp_region_later (by kernel_rfl) (by kernel_rfl) ?_
        repeat (go_big_quiet_step (with_reducible first | exact HR.out _))
        refine wpQuiet_nil ?_
        rintro _ ⟨m, rfl⟩
        go_wp2
        go_ret
        exact ⟨gbool e1.out.symm, m.bel⟩
  · rw [decide_eq_false hRt] at HR
    have e1 := Lib.hid (mayAt_no (k := k) hRt)
    clear hr hRt
    go_enter Try.func41, Try.ntmps41
    go_wp2_with fail
    refine wp_region_later (by kernel_rfl) (by kernel_rfl) ?_
    repeat (go_big_quiet_step (with_reducible first | exact HR.out _))
    refine wpQuiet_nil ?_
    rintro _ ⟨m, rfl⟩
    go_wp2
    go_ret
    exact ⟨gbool e1.out.symm, m.bel⟩

end Go.Proofs.Ytoakgogngcmneaa
