/-
  What the calls on sizes and ways answer (the program's inode, and the document's).
-/
import Derived.Test.YtladgfonkolpmaaInoMath
import Derived.Test.YtladgfonkolpmaaBytes
import Derived.Laws.StructEq
import Derived.Lib.Hide
import Derived.Outline
namespace Go.Proofs.Ytladgfonkolpmaa
open Go.RowKit Crcm Tagm Inom Go.ChangeShapes

theorem isized_yes (n : Int) (w : World) (h : Sz n) : Calls Try.prog 58 #[.int .i64 n] w fun e w' => e = .returned (.bool true) ∧ w = w' := by
  rcases h with rfl | rfl | rfl | rfl
  all_goals
    go_enter Try.func58, Try.ntmps58
    go_wp2
    go_ret
    exact ⟨rfl, rfl⟩
theorem isized_no (n : Int) (w : World) (h : ¬ Sz n) : Calls Try.prog 58 #[.int .i64 n] w fun e w' => e = .returned (.bool false) ∧ w = w' := by
  have e1 : ((n : Int) == 64) = false := by simp; intro g; exact h (.inl g)
  have e2 : ((n : Int) == 128) = false := by simp; intro g; exact h (.inr (.inl g))
  have e3 : ((n : Int) == 256) = false := by simp; intro g; exact h (.inr (.inr (.inl g)))
  have e4 : ((n : Int) == 512) = false := by simp; intro g; exact h (.inr (.inr (.inr g)))
  clear h
  go_enter Try.func58, Try.ntmps58
  go_wp2
  go_ret
  exact ⟨rfl, rfl⟩
theorem irefsized_yes (n : Int) (w : World) (h : Sz n) : Calls Try.prog 19 #[.int .i64 n] w fun e w' => e = .returned (.bool true) ∧ w = w' := by
  rcases h with rfl | rfl | rfl | rfl
  all_goals
    go_enter Try.func19, Try.ntmps19
    go_wp2
    go_ret
    exact ⟨rfl, rfl⟩
theorem irefsized_no (n : Int) (w : World) (h : ¬ Sz n) : Calls Try.prog 19 #[.int .i64 n] w fun e w' => e = .returned (.bool false) ∧ w = w' := by
  have e1 : ((n : Int) == 64) = false := by simp; intro g; exact h (.inl g)
  have e2 : ((n : Int) == 128) = false := by simp; intro g; exact h (.inr (.inl g))
  have e3 : ((n : Int) == 256) = false := by simp; intro g; exact h (.inr (.inr (.inl g)))
  have e4 : ((n : Int) == 512) = false := by simp; intro g; exact h (.inr (.inr (.inr g)))
  clear h
  go_enter Try.func19, Try.ntmps19
  go_wp2
  go_ret
  exact ⟨rfl, rfl⟩

theorem per_any (n : Int) (w : World) : Calls Try.prog 38 #[.int .i64 n] w fun e w' => e = .returned (.int .i64 (per n)) ∧ w = w' := by
  by_cases h : Sz n
  · have E := Lib.hid (per_yes h)
    have H := Lib.hid (fun w => isized_yes n w h)
    have hn : 0 ≤ n ∧ n ≤ 512 := by unfold Sz at h; omega
    obtain ⟨h0, h1⟩ := hn
    clear h
    go_enter Try.func38, Try.ntmps38
    go_wp2_with fail
    refine (H.out _).mono ?_
    rintro e w' ⟨rfl, rfl⟩
    go_wp2
    go_ret
    exact ⟨ret_i64 E.out.symm, rfl⟩
  · have E := Lib.hid (per_no h)
    have H := Lib.hid (fun w => isized_no n w h)
    clear h
    go_enter Try.func38, Try.ntmps38
    go_wp2_with fail
    refine (H.out _).mono ?_
    rintro e w' ⟨rfl, rfl⟩
    go_wp2
    go_ret
    exact ⟨ret_i64 E.out.symm, rfl⟩
theorem ptrs_yes (n : Int) (w : World) (h : Sz n) : Calls Try.prog 40 #[.int .i64 n] w fun e w' => e = .returned (.int .i64 (n / 2)) ∧ w = w' := by
  have H := Lib.hid (fun w => isized_yes n w h)
  have hn : 0 ≤ n ∧ n ≤ 512 := by unfold Sz at h; omega
  obtain ⟨h0, h1⟩ := hn
  clear h
  go_enter Try.func40, Try.ntmps40
  go_wp2_with fail
  refine (H.out _).mono ?_
  rintro e w' ⟨rfl, rfl⟩
  go_wp2
  go_ret
  exact ⟨rfl, rfl⟩
theorem ptrs_no (n : Int) (w : World) (h : ¬ Sz n) : Calls Try.prog 40 #[.int .i64 n] w fun e w' => e = .returned (.int .i64 0) ∧ w = w' := by
  have H := Lib.hid (fun w => isized_no n w h)
  clear h
  go_enter Try.func40, Try.ntmps40
  go_wp2_with fail
  refine (H.out _).mono ?_
  rintro e w' ⟨rfl, rfl⟩
  go_wp2
  go_ret
  exact ⟨rfl, rfl⟩

theorem most_any (n : Int) (w : World) : Calls Try.prog 39 #[.int .i64 n] w fun e w' => e = .returned (.int .i64 (most n)) ∧ w = w' := by
  by_cases h : Sz n
  · have H := Lib.hid (fun w => isized_yes n w h)
    have HP := Lib.hid (fun w => ptrs_yes n w h)
    rcases h with rfl | rfl | rfl | rfl
    all_goals
      go_enter Try.func39, Try.ntmps39
      go_wp2_with fail
      refine (H.out _).mono ?_
      rintro e w' ⟨rfl, rfl⟩
      go_wp2_with fail
      refine (HP.out _).mono ?_
      rintro e w' ⟨rfl, rfl⟩
      go_wp2
      go_ret
      exact ⟨ret_i64 (by decide), rfl⟩
  · have E : Hid (most n = 0) := Lib.hid (by unfold most; unfold Sz at h; rw [if_neg (by omega), if_neg (by omega), if_neg (by omega), if_neg (by omega)])
    have H := Lib.hid (fun w => isized_no n w h)
    clear h
    go_enter Try.func39, Try.ntmps39
    go_wp2_with fail
    refine (H.out _).mono ?_
    rintro e w' ⟨rfl, rfl⟩
    go_wp2
    go_ret
    exact ⟨ret_i64 E.out.symm, rfl⟩

end Go.Proofs.Ytladgfonkolpmaa
