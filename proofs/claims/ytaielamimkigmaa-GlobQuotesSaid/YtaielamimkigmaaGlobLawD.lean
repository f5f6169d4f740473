/-
  The law GlobQuotes.
-/
import Derived.Test.YtaielamimkigmaaGlobQuoteR
import Derived.Test.YtaielamimkigmaaGlobPart
import Derived.Test.YtaielamimkigmaaGlobLawA
namespace Go.Proofs.Ytaielamimkigmaa
open Go.RowKit Go.ChangeShapes Globm Go.ChangeMaps

set_option maxRecDepth 100000 in
set_option maxHeartbeats 400000 in
theorem globQuotes_walk (s n : ByteArray) (w : World) (_ : s.size ≤ maxLen) (_ : n.size ≤ maxLen) :
    Calls Try.prog 5 #[.string s, .string n] w fun e w' => e = .returned (.bool true) ∧ Below w.heap.size w w' := by
  by_cases h1 : 300 < s.size
  · have t1 : decide ((300 : Int) < (s.size : Int)) = true := by simp; omega
    clear h1
    go_enter Try.func5, Try.ntmps5
    go_wp2_with fail
    refine (gknown_any _).mono ?_
    rintro e w2 ⟨rfl, hb⟩
    go_wp2
    go_ret
    exact ⟨rfl, hb⟩
  · have t1 : decide ((300 : Int) < (s.size : Int)) = false := by simp; omega
    by_cases h2 : 300 < n.size
    · have t2 : decide ((300 : Int) < (n.size : Int)) = true := by simp; omega
      clear h2 h1
      go_enter Try.func5, Try.ntmps5
      go_wp2_with fail
      refine (gknown_any _).mono ?_
      rintro e w2 ⟨rfl, hb⟩
      go_wp2
      go_ret
      exact ⟨rfl, hb⟩
    · have t2 : decide ((300 : Int) < (n.size : Int)) = false := by simp; omega
      have HQ := Lib.hid (fun w => quote_any s w (by omega))
      have HR := Lib.hid (fun w => rquote_any s w (by omega))
      have HP1 := Lib.hid (fun w => part_any (qB s) s w (by omega))
      have HP2 := Lib.hid (fun w => part_any (qB s) n w (by omega))
      have tq : ((qB s).toList == (qB s).toList) = true := beq_self_eq_true _
      have hq3 : (qB s).size ≤ 1000 := by
        have h7 := qtl_len s.data.toList
        have h8 : s.data.toList.length = s.size := by simp
        rw [h8] at h7
        rw [qB_size]; omega
      by_cases h0 : s.size = 0
      · have E1 := q_ptR0 (n := s) (Or.inl h0)
        have E2 := q_ptR0 (n := n) (Or.inl h0)
        rw [E1] at HP1
        rw [E2] at HP2
        have te : s.toList.isEmpty = true := by rw [ByteArray.toList_eq, List.isEmpty_iff]; exact List.eq_nil_of_length_eq_zero (by simpa using h0)
        have te2 : s.toList = [] := by simpa using te
        clear E1 E2 h0 h1 h2
        go_enter Try.func5, Try.ntmps5
        go_wp2_with fail
        refine (HQ.out _).mono ?_
        rintro e w2 ⟨rfl, hb⟩
        have HB := Lib.hid hb
        clear hb
        go_wp2_with fail
        refine (HP1.out _).mono ?_
        rintro e w3 ⟨rfl, hb⟩
        have HB3 := Lib.hid (gbonq HB.out hb)
        clear hb HB
        go_wp2_with fail
        refine (HP2.out _).mono ?_
        rintro e w4 ⟨rfl, hb⟩
        have HB4 := Lib.hid (gbonq HB3.out hb)
        clear hb HB3
        go_wp2_with fail
        refine (HR.out _).mono ?_
        rintro e w5 ⟨rfl, hb⟩
        have HB5 := Lib.hid (gbonq HB4.out hb)
        clear hb HB4
        go_wp2_with fail
        refine (gknown_any _).mono ?_
        rintro e w6 ⟨rfl, hb⟩
        go_wp2
        go_ret
        exact ⟨rfl, gbonq HB5.out hb⟩
      · have te : s.toList.isEmpty = false := by rw [ByteArray.toList_eq, List.isEmpty_eq_false_iff]; intro h; exact h0 (by have := congrArg List.length h; simpa using this)
        have te2 : ¬ s.toList = [] := by intro h; rw [h] at te; cases te
        by_cases h6 : 64 < (qB s).size
        · have E1 := q_ptR0 (n := s) (Or.inr h6)
          have E2 := q_ptR0 (n := n) (Or.inr h6)
          rw [E1] at HP1
          rw [E2] at HP2
          have t6 : decide ((64 : Int) < ((qB s).size : Int)) = true := by simp; omega
          clear E1 E2 h0 h1 h2
          go_enter Try.func5, Try.ntmps5
          go_wp2_with fail
          refine (HQ.out _).mono ?_
          rintro e w2 ⟨rfl, hb⟩
          have HB := Lib.hid hb
          clear hb
          go_wp2_with fail
          refine (HP1.out _).mono ?_
          rintro e w3 ⟨rfl, hb⟩
          have HB3 := Lib.hid (gbonq HB.out hb)
          clear hb HB
          go_wp2_with fail
          refine (HP2.out _).mono ?_
          rintro e w4 ⟨rfl, hb⟩
          have HB4 := Lib.hid (gbonq HB3.out hb)
          clear hb HB3
          go_wp2_with fail
          refine (HR.out _).mono ?_
          rintro e w5 ⟨rfl, hb⟩
          have HB5 := Lib.hid (gbonq HB4.out hb)
          clear hb HB4
          go_wp2_with fail
          refine (gknown_any _).mono ?_
          rintro e w6 ⟨rfl, hb⟩
          go_wp2
          go_ret
          exact ⟨rfl, gbonq HB5.out hb⟩
        · have t6 : decide ((64 : Int) < ((qB s).size : Int)) = false := by simp; omega
          have E1 := q_ptR (n := s) h0 (Nat.not_lt.1 h6)
          have E2 := q_ptR (n := n) h0 (Nat.not_lt.1 h6)
          rw [E1] at HP1
          rw [E2] at HP2
          rw [decide_eq_true (rfl : s = s)] at HP1
          by_cases hsn : s = n
          · rw [decide_eq_true hsn] at HP2
            have tn : (s.toList == n.toList) = true := str_eq hsn
            clear E1 E2 h0 h1 h2 h6 hsn te2
            go_enter Try.func5, Try.ntmps5
            go_wp2_with fail
            refine (HQ.out _).mono ?_
            rintro e w2 ⟨rfl, hb⟩
            have HB := Lib.hid hb
            clear hb
            go_wp2_with fail
            refine (HP1.out _).mono ?_
            rintro e w3 ⟨rfl, hb⟩
            have HB3 := Lib.hid (gbonq HB.out hb)
            clear hb HB
            go_wp2_with fail
            refine (HP2.out _).mono ?_
            rintro e w4 ⟨rfl, hb⟩
            have HB4 := Lib.hid (gbonq HB3.out hb)
            clear hb HB3
            go_wp2_with fail
            refine (HR.out _).mono ?_
            rintro e w5 ⟨rfl, hb⟩
            have HB5 := Lib.hid (gbonq HB4.out hb)
            clear hb HB4
            go_wp2_with fail
            refine (gknown_any _).mono ?_
            rintro e w6 ⟨rfl, hb⟩
            go_wp2
            go_ret
            exact ⟨rfl, gbonq HB5.out hb⟩
          · rw [decide_eq_false hsn] at HP2
            have tn : (s.toList == n.toList) = false := str_ne hsn
            clear E1 E2 h0 h1 h2 h6 hsn te2
            go_enter Try.func5, Try.ntmps5
            go_wp2_with fail
            refine (HQ.out _).mono ?_
            rintro e w2 ⟨rfl, hb⟩
            have HB := Lib.hid hb
            clear hb
            go_wp2_with fail
            refine (HP1.out _).mono ?_
            rintro e w3 ⟨rfl, hb⟩
            have HB3 := Lib.hid (gbonq HB.out hb)
            clear hb HB
            go_wp2_with fail
            refine (HP2.out _).mono ?_
            rintro e w4 ⟨rfl, hb⟩
            have HB4 := Lib.hid (gbonq HB3.out hb)
            clear hb HB3
            go_wp2_with fail
            refine (HR.out _).mono ?_
            rintro e w5 ⟨rfl, hb⟩
            have HB5 := Lib.hid (gbonq HB4.out hb)
            clear hb HB4
            go_wp2_with fail
            refine (gknown_any _).mono ?_
            rintro e w6 ⟨rfl, hb⟩
            go_wp2
            go_ret
            exact ⟨rfl, gbonq HB5.out hb⟩
end Go.Proofs.Ytaielamimkigmaa
