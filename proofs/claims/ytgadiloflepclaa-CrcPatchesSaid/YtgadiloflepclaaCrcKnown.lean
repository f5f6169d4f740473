/-
  What the fixed calls answer that every statement on sums holds beside itself: they come to true.
-/
import Derived.Test.YtgadiloflepclaaCrcMore
import Derived.WalkSpells
import Derived.WalkLawsBesides
import Derived.Lib.SlBytesConst
namespace Go.Proofs.Ytgadiloflepclaa
open Go.RowKit Crcm

theorem zeros_minus (s : Int) (w : World) :
    Calls Try.prog 23 #[.int .u32 s, .int .i64 (-1)] w fun e w' => e = .returned (.tuple #[.int .u32 0, .int .i64 1]) ∧ w = w' := by
  go_enter Try.func23, Try.ntmps23
  go_wp2_with fail
  go_ret2
  exact ⟨rfl, rfl⟩

theorem patch_beyond (s : Int) (a b : Int) (w : World) :
    Calls Try.prog 27 #[.int .u32 s, .int .i64 4, .int .i64 4, .int .u8 a, .int .u8 b] w fun e w' => e = .returned (.tuple #[.int .u32 0, .int .i64 1]) ∧ w = w' := by
  go_enter Try.func27, Try.ntmps27
  go_wp2_with fail
  go_ret2
  exact ⟨rfl, rfl⟩

theorem mo_nil : mo 0 [] = 0 := by decide +kernel
theorem mo_known : mo 0 [49, 50, 51, 52, 53, 54, 55, 56, 57] = 3421780262 := by decide +kernel

theorem sum_nine (a : Option Addr) (w : World) (hr : Rw w a [49, 50, 51, 52, 53, 54, 55, 56, 57]) :
    Calls Try.prog 19 #[.slice a 9 9] w fun e w' => e = .returned (.int .u32 3421780262) ∧ w = w' := by
  rw [← mo_known]
  exact sum_any a 9 [49, 50, 51, 52, 53, 54, 55, 56, 57] w hr

theorem sum_nil (w : World) :
    Calls Try.prog 19 #[.slice none 0 0] w fun e w' => e = .returned (.int .u32 0) ∧ w = w' := by
  have h := sum_any none 0 [] w ⟨by simp, by simp, .inl rfl⟩
  rw [mo_nil] at h
  exact h

theorem nine_there (w : World) (m : Nat × Nat) : Rw (w.alloc (.cells #[.int .u8 49, .int .u8 50, .int .u8 51, .int .u8 52, .int .u8 53, .int .u8 54, .int .u8 55, .int .u8 56, .int .u8 57] 5 m)) (some ⟨w.heap.size, 0, none⟩) [49, 50, 51, 52, 53, 54, 55, 56, 57] := by
  refine ⟨?_, by decide, .inr ⟨w.heap.size, 0, rfl, ?_⟩⟩
  · intro n hn
    unfold U8
    simp at hn
    omega
  · intro i hi
    rw [cell_of_row _ w.heap.size (0 + i) _ _ _ (heap_alloc_new w _)]
    simp at hi
    rcases (by omega : i = 0 ∨ i = 1 ∨ i = 2 ∨ i = 3 ∨ i = 4 ∨ i = 5 ∨ i = 6 ∨ i = 7 ∨ i = 8) with rfl | rfl | rfl | rfl | rfl | rfl | rfl | rfl | rfl <;> rfl

set_option maxHeartbeats 400000 in
theorem known_any (w : World) :
    Calls Try.prog 17 #[] w fun e w' => e = .returned (.bool true) ∧ Below w.heap.size w w' := by
  have kc := fun (w : World) (C : Array Value) (n c : Nat) => Lib.run_convert_bytes_const (P := Try.prog) w 26 5 C n c Try.underlying26 Try.underlying5
  go_enter Try.func17, Try.ntmps17
  go_wp2_with (first | (go_at_call 23; refine (zeros_minus _ _).mono ?_; rintro e w' ⟨rfl, rfl⟩) | (go_at_call 27; refine (patch_beyond _ _ _ _).mono ?_; rintro e w' ⟨rfl, rfl⟩))
  refine (sum_nine _ _ (nine_there w _)).mono ?_
  rintro e w' ⟨rfl, rfl⟩
  go_wp2_with fail
  refine (sum_nil _).mono ?_
  rintro e w' ⟨rfl, rfl⟩
  go_wp2_with fail
  go_ret
  exact ⟨rfl, (Below.refl _ _).alloc (Nat.le_refl _) _⟩

end Go.Proofs.Ytgadiloflepclaa
