/-
  Operations that are right, as the document tells it. Nothing of one statement alone stands here.
-/
import Derived.Test.YtcpoicplhkkjnaaGreatHistP
namespace Go.Proofs.YtcpoicplhkkjnaaGreat
open Go.RowKit Crcm Tagm Go.ChangeShapes

set_option maxRecDepth 100000 in
set_option maxHeartbeats 1000000 in
theorem rright_any (o : Ho) (A : Option Addr) (c m : Nat) (hm : o.b.length = m) (h1 : o.path.size ≤ maxLen ∧ o.to.size ≤ maxLen ∧ m ≤ maxLen) (w : World) :
    Calls Tryz.prog 27 #[.agg #[.int .i64 o.kind, .string o.path, .string o.to, .int .i64 o.handle, .int .i64 o.n, .int .i64 o.off, .slice A m c]] w fun e w' => e = .returned (.bool (decide (Rg o))) ∧ Below w.heap.size w w' := by
  obtain ⟨h1, h2, h3⟩ := h1
  unfold maxLen at h1 h2 h3
  have HB := Lib.hid ((Below.refl w.heap.size w).alloc (Nat.le_refl _) (.cells #[.int .i64 o.kind, .string o.path, .string o.to, .int .i64 o.handle, .int .i64 o.n, .int .i64 o.off, .slice A m c] 48))
  have HM := Lib.hid hm
  by_cases q0 : o.kind < 1
  · have t0 : decide (o.kind < 1) = true := decide_eq_true (by omega)
    have HD := Lib.hid (show decide (Rg o) = false from decide_eq_false (fun g => by unfold Rg at g; rw [hm] at g; omega))
    clear hm h1 h2 h3 q0
    go_enter Tryz.func27, Tryz.ntmps27
    go_wp2
    go_ret
    exact ⟨by rw [HD.out]; rfl, HB.out⟩
  have t0 : decide (o.kind < 1) = false := decide_eq_false (by omega)
  by_cases q1 : 14 < o.kind
  · have t1 : decide (14 < o.kind) = true := decide_eq_true (by omega)
    have HD := Lib.hid (show decide (Rg o) = false from decide_eq_false (fun g => by unfold Rg at g; rw [hm] at g; omega))
    clear hm h1 h2 h3 q0 q1
    go_enter Tryz.func27, Tryz.ntmps27
    go_wp2
    go_ret
    exact ⟨by rw [HD.out]; rfl, HB.out⟩
  have t1 : decide (14 < o.kind) = false := decide_eq_false (by omega)
  by_cases q2 : 255 < o.path.size
  · have t2 : decide ((255 : Int) < (o.path.size : Int)) = true := decide_eq_true (by omega)
    have HD := Lib.hid (show decide (Rg o) = false from decide_eq_false (fun g => by unfold Rg at g; rw [hm] at g; omega))
    clear hm h1 h2 h3 q0 q1 q2
    go_enter Tryz.func27, Tryz.ntmps27
    go_wp2
    go_ret
    exact ⟨by rw [HD.out]; rfl, HB.out⟩
  have t2 : decide ((255 : Int) < (o.path.size : Int)) = false := decide_eq_false (by omega)
  by_cases q3 : 255 < o.to.size
  · have t3 : decide ((255 : Int) < (o.to.size : Int)) = true := decide_eq_true (by omega)
    have HD := Lib.hid (show decide (Rg o) = false from decide_eq_false (fun g => by unfold Rg at g; rw [hm] at g; omega))
    clear hm h1 h2 h3 q0 q1 q2 q3
    go_enter Tryz.func27, Tryz.ntmps27
    go_wp2
    go_ret
    exact ⟨by rw [HD.out]; rfl, HB.out⟩
  have t3 : decide ((255 : Int) < (o.to.size : Int)) = false := decide_eq_false (by omega)
  by_cases q4 : 1024 < m
  · have t4 : decide ((1024 : Int) < (m : Int)) = true := decide_eq_true (by omega)
    have HD := Lib.hid (show decide (Rg o) = false from decide_eq_false (fun g => by unfold Rg at g; rw [hm] at g; omega))
    clear hm h1 h2 h3 q0 q1 q2 q3 q4
    go_enter Tryz.func27, Tryz.ntmps27
    go_wp2
    go_ret
    exact ⟨by rw [HD.out]; rfl, HB.out⟩
  have t4 : decide ((1024 : Int) < (m : Int)) = false := decide_eq_false (by omega)
  by_cases q5 : ¬ -2147483648 ≤ o.handle
  · have t5 : decide (-2147483648 ≤ o.handle) = false := decide_eq_false q5
    have HD := Lib.hid (show decide (Rg o) = false from decide_eq_false (fun g => by unfold Rg at g; rw [hm] at g; omega))
    clear hm h1 h2 h3 q0 q1 q2 q3 q4 q5
    go_enter Tryz.func27, Tryz.ntmps27
    go_wp2
    go_ret
    exact ⟨by rw [HD.out]; rfl, HB.out⟩
  have t5 : decide (-2147483648 ≤ o.handle) = true := decide_eq_true (by omega)
  by_cases q6 : ¬ o.handle ≤ 2147483647
  · have t6 : decide (o.handle ≤ 2147483647) = false := decide_eq_false q6
    have HD := Lib.hid (show decide (Rg o) = false from decide_eq_false (fun g => by unfold Rg at g; rw [hm] at g; omega))
    clear hm h1 h2 h3 q0 q1 q2 q3 q4 q5 q6
    go_enter Tryz.func27, Tryz.ntmps27
    go_wp2
    go_ret
    exact ⟨by rw [HD.out]; rfl, HB.out⟩
  have t6 : decide (o.handle ≤ 2147483647) = true := decide_eq_true (by omega)
  by_cases q7 : ¬ -2147483648 ≤ o.n
  · have t7 : decide (-2147483648 ≤ o.n) = false := decide_eq_false q7
    have HD := Lib.hid (show decide (Rg o) = false from decide_eq_false (fun g => by unfold Rg at g; rw [hm] at g; omega))
    clear hm h1 h2 h3 q0 q1 q2 q3 q4 q5 q6 q7
    go_enter Tryz.func27, Tryz.ntmps27
    go_wp2
    go_ret
    exact ⟨by rw [HD.out]; rfl, HB.out⟩
  have t7 : decide (-2147483648 ≤ o.n) = true := decide_eq_true (by omega)
  by_cases q8 : ¬ o.n ≤ 2147483647
  · have t8 : decide (o.n ≤ 2147483647) = false := decide_eq_false q8
    have HD := Lib.hid (show decide (Rg o) = false from decide_eq_false (fun g => by unfold Rg at g; rw [hm] at g; omega))
    clear hm h1 h2 h3 q0 q1 q2 q3 q4 q5 q6 q7 q8
    go_enter Tryz.func27, Tryz.ntmps27
    go_wp2
    go_ret
    exact ⟨by rw [HD.out]; rfl, HB.out⟩
  have t8 : decide (o.n ≤ 2147483647) = true := decide_eq_true (by omega)
  have HD := Lib.hid (show decide (Rg o) = true from decide_eq_true (by unfold Rg; rw [hm]; omega))
  clear hm h1 h2 h3 q0 q1 q2 q3 q4 q5 q6 q7 q8
  go_enter Tryz.func27, Tryz.ntmps27
  go_wp2
  go_ret
  exact ⟨by rw [HD.out]; rfl, HB.out⟩

end Go.Proofs.YtcpoicplhkkjnaaGreat
