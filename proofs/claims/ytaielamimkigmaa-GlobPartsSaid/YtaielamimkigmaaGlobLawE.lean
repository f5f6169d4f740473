/-
  The law GlobParts.
-/
import Derived.Test.YtaielamimkigmaaGlobPartR
namespace Go.Proofs.Ytaielamimkigmaa
open Go.RowKit Go.ChangeShapes Globm Go.ChangeMaps

set_option maxRecDepth 100000 in
set_option maxHeartbeats 4000000 in
theorem globParts_walk (s n : ByteArray) (w : World) (_ : s.size ≤ maxLen) (_ : n.size ≤ maxLen) :
    Calls Try.prog 3 #[.string s, .string n] w fun e w' => e = .returned (.bool true) ∧ Below w.heap.size w w' := by
  by_cases h1 : 300 < s.size
  · have t1 : decide ((300 : Int) < (s.size : Int)) = true := by simp; omega
    clear h1
    go_enter Try.func3, Try.ntmps3
    go_wp2_with fail
    refine (gknown_any _).mono ?_
    rintro e w2 ⟨rfl, hb⟩
    go_wp2
    go_ret
    exact ⟨rfl, hb⟩
  · have t1 : decide ((300 : Int) < (s.size : Int)) = false := by simp; omega
    by_cases h2 : 300 < n.size
    · have t2 : decide ((300 : Int) < (n.size : Int)) = true := by simp; omega
      clear h2 h1
      go_enter Try.func3, Try.ntmps3
      go_wp2_with fail
      refine (gknown_any _).mono ?_
      rintro e w2 ⟨rfl, hb⟩
      go_wp2
      go_ret
      exact ⟨rfl, hb⟩
    · have t2 : decide ((300 : Int) < (n.size : Int)) = false := by simp; omega
      have HP := Lib.hid (fun w => part_any s n w (by omega))
      have HR := Lib.hid (fun w => rpart_any s n w (by omega))
      obtain ⟨x, hx⟩ : ∃ x, ptR s n = x := ⟨_, rfl⟩
      rw [hx] at HP HR
      obtain ⟨b, k⟩ := x
      clear hx h1 h2
      go_enter Try.func3, Try.ntmps3
      go_wp2_with fail
      refine (HP.out _).mono ?_
      rintro e w2 ⟨rfl, hb⟩
      have HB := Lib.hid hb
      clear hb
      go_wp2_with fail
      refine (HR.out _).mono ?_
      rintro e w3 ⟨rfl, hb⟩
      have HB3 := Lib.hid (gbonq HB.out hb)
      clear hb HB
      go_wp2_with fail
      refine (gknown_any _).mono ?_
      rintro e w4 ⟨rfl, hb⟩
      go_wp2
      go_ret
      exact ⟨rfl, gbonq HB3.out hb⟩
end Go.Proofs.Ytaielamimkigmaa
