/-
  What the document's own To answers.
-/
import Derived.Test.YtladgfonkolpmaaInoTo
namespace Go.Proofs.Ytladgfonkolpmaa
open Go.RowKit Crcm Tagm Inom Go.ChangeShapes

theorem refto_size (s n : Int) (w : World) (h : ¬ Sz s) : Calls Try.prog 51 #[.int .i64 s, .int .i64 n] w fun e w' => e = .returned (.tuple #[wy 0 0 0, .int .i64 1]) ∧ Below w.heap.size w w' := by
  have H := Lib.hid (fun w => irefsized_no s w h)
  clear h
  unfold wy
  go_enter Try.func51, Try.ntmps51
  go_wp2_with fail
  refine (H.out _).mono ?_
  rintro e w' ⟨rfl, rfl⟩
  go_wp2
  exact bodyPost_ret (v := .tuple #[.agg #[.int .i64 0, .int .i64 0, .int .i64 0], .int .i64 1]) (by simp [results, Try.results51, go_sem]) rfl ⟨rfl, (Below.refl _ _).alloc (Nat.le_refl _) _⟩

theorem refto_index (s n : Int) (w : World) (h : Sz s) (h2 : n < 0 ∨ pgs s ≤ n) : Calls Try.prog 51 #[.int .i64 s, .int .i64 n] w fun e w' => e = .returned (.tuple #[wy 0 0 0, .int .i64 52]) ∧ Below w.heap.size w w' := by
  have H := Lib.hid (fun w => irefsized_yes s w h)
  have HP := Lib.hid (fun w => pages_any s w h)
  unfold wy
  rcases h with rfl | rfl | rfl | rfl
  all_goals
    by_cases h0 : n < 0
    · clear h2
      go_enter Try.func51, Try.ntmps51
      go_wp2_with fail
      refine (H.out _).mono ?_
      rintro e w' ⟨rfl, rfl⟩
      go_wp2
      exact bodyPost_ret (v := .tuple #[.agg #[.int .i64 0, .int .i64 0, .int .i64 0], .int .i64 52]) (by simp [results, Try.results51, go_sem]) rfl ⟨rfl, (Below.refl _ _).alloc (Nat.le_refl _) _⟩
    · replace h2 := h2.resolve_left h0
      simp only [pgs, Int.reduceDiv, Int.reduceMul, Int.reduceAdd] at h2
      go_enter Try.func51, Try.ntmps51
      go_wp2_with fail
      refine (H.out _).mono ?_
      rintro e w' ⟨rfl, rfl⟩
      go_wp2_with fail
      refine (HP.out _).mono ?_
      rintro e w' ⟨rfl, rfl⟩
      simp only [pgs, Int.reduceDiv, Int.reduceMul, Int.reduceAdd]
      go_wp2
      exact bodyPost_ret (v := .tuple #[.agg #[.int .i64 0, .int .i64 0, .int .i64 0], .int .i64 52]) (by simp [results, Try.results51, go_sem]) rfl ⟨rfl, (Below.refl _ _).alloc (Nat.le_refl _) _⟩

set_option maxHeartbeats 4000000 in
theorem refto_ok (s n : Int) (w : World) (h : Sz s) (h0 : 0 ≤ n) (h1 : n < pgs s) : Calls Try.prog 51 #[.int .i64 s, .int .i64 n] w fun e w' => e = .returned (.tuple #[wy (lv s n) (fi s n) (se s n), .int .i64 0]) ∧ Below w.heap.size w w' := by
  have H := Lib.hid (fun w => irefsized_yes s w h)
  have HP := Lib.hid (fun w => pages_any s w h)
  unfold wy lv fi se
  by_cases a : n < 6
  · rw [if_pos a, if_pos a, if_pos (by unfold Sz at h; omega)]
    rcases h with rfl | rfl | rfl | rfl
    all_goals
      simp only [pgs, Int.reduceDiv, Int.reduceMul, Int.reduceAdd] at h1
      go_enter Try.func51, Try.ntmps51
      go_wp2_with fail
      refine (H.out _).mono ?_
      rintro e w' ⟨rfl, rfl⟩
      go_wp2_with fail
      refine (HP.out _).mono ?_
      rintro e w' ⟨rfl, rfl⟩
      simp only [pgs, Int.reduceDiv, Int.reduceMul, Int.reduceAdd]
      go_wp2
      exact bodyPost_ret (v := .tuple #[.agg #[.int .i64 0, .int .i64 n, .int .i64 0], .int .i64 0]) (by simp [results, Try.results51, go_sem]) rfl ⟨rfl, (Below.refl _ _).alloc (Nat.le_refl _) _⟩
  · rw [if_neg a, if_neg a]
    by_cases b : n < 6 + s / 2
    · rw [if_pos b, if_pos b, if_pos b]
      rcases h with rfl | rfl | rfl | rfl
      all_goals
        simp only [pgs, Int.reduceDiv, Int.reduceMul, Int.reduceAdd] at h1 b
        go_enter Try.func51, Try.ntmps51
        go_wp2_with fail
        refine (H.out _).mono ?_
        rintro e w' ⟨rfl, rfl⟩
        go_wp2_with fail
        refine (HP.out _).mono ?_
        rintro e w' ⟨rfl, rfl⟩
        simp only [pgs, Int.reduceDiv, Int.reduceMul, Int.reduceAdd]
        go_wp2
        exact bodyPost_ret (v := .tuple #[.agg #[.int .i64 1, .int .i64 (n - 6), .int .i64 0], .int .i64 0]) (by simp [results, Try.results51, go_sem]) rfl ⟨rfl, (Below.refl _ _).alloc (Nat.le_refl _) _⟩
    · rw [if_neg b, if_neg b, if_neg b]
      rcases h with rfl | rfl | rfl | rfl
      all_goals
        simp only [pgs, Int.reduceDiv, Int.reduceMul, Int.reduceAdd] at h1 b
        simp only [Int.reduceDiv]
        go_enter Try.func51, Try.ntmps51
        go_wp2_with fail
        refine (H.out _).mono ?_
        rintro e w' ⟨rfl, rfl⟩
        go_wp2_with fail
        refine (HP.out _).mono ?_
        rintro e w' ⟨rfl, rfl⟩
        simp only [pgs, Int.reduceDiv, Int.reduceMul, Int.reduceAdd]
        go_wp2
        go_region
        all_goals go_wp2
        all_goals first
          | exact bodyPost_ret (v := .tuple #[.agg #[.int .i64 2, .int .i64 ((n - 6 - 32) / 32), .int .i64 (n - 6 - 32 - (n - 6 - 32) / 32 * 32)], .int .i64 0]) (by simp [results, Try.results51, go_sem]) rfl ⟨way_eq rfl rfl (by omega), by first | exact (Below.refl _ _).alloc (Nat.le_refl _) _ | exact ((Below.refl _ _).alloc (Nat.le_refl _) _).drew⟩
          | exact bodyPost_ret (v := .tuple #[.agg #[.int .i64 2, .int .i64 ((n - 6 - 64) / 64), .int .i64 (n - 6 - 64 - (n - 6 - 64) / 64 * 64)], .int .i64 0]) (by simp [results, Try.results51, go_sem]) rfl ⟨way_eq rfl rfl (by omega), by first | exact (Below.refl _ _).alloc (Nat.le_refl _) _ | exact ((Below.refl _ _).alloc (Nat.le_refl _) _).drew⟩
          | exact bodyPost_ret (v := .tuple #[.agg #[.int .i64 2, .int .i64 ((n - 6 - 128) / 128), .int .i64 (n - 6 - 128 - (n - 6 - 128) / 128 * 128)], .int .i64 0]) (by simp [results, Try.results51, go_sem]) rfl ⟨way_eq rfl rfl (by omega), by first | exact (Below.refl _ _).alloc (Nat.le_refl _) _ | exact ((Below.refl _ _).alloc (Nat.le_refl _) _).drew⟩
          | exact bodyPost_ret (v := .tuple #[.agg #[.int .i64 2, .int .i64 ((n - 6 - 256) / 256), .int .i64 (n - 6 - 256 - (n - 6 - 256) / 256 * 256)], .int .i64 0]) (by simp [results, Try.results51, go_sem]) rfl ⟨way_eq rfl rfl (by omega), by first | exact (Below.refl _ _).alloc (Nat.le_refl _) _ | exact ((Below.refl _ _).alloc (Nat.le_refl _) _).drew⟩

end Go.Proofs.Ytladgfonkolpmaa
