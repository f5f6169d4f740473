/-
  The fixed calls that each statement on chips ends with. Nothing of one statement alone stands here.
-/
import Derived.Test.YtfimllickcmdhaaNandDo
namespace Go.Proofs.Ytfimllickcmdhaa
open Go.RowKit Crcm Go.ChangeShapes

theorem gd8 : Gd 8 4 64 := ⟨by omega, by omega, by omega, by omega, .inl rfl⟩
def k0 : Ch := newC 8 4 64 []
def k1 (l : List Int) : Ch := prC k0 0 0 l
theorem k0_10 : prE k0 0 1 96 = 10 := rfl
theorem k0_0 : prE k0 0 0 96 = 0 := rfl
theorem k1_10 (l : List Int) : prE (k1 l) 0 0 96 = 10 := rfl
theorem k1_0 (l : List Int) : erE (k1 l) 0 = 0 := rfl
theorem k0_k : endE (fnd k0.fl k0.since).kind = 0 := rfl
theorem k1_k (l : List Int) : endE (fnd (k1 l).fl (k1 l).since).kind = 0 := rfl
theorem wr1 : wrap64 (0 + 1) = 1 := IntWalk.wrap64_in _ ⟨by omega, by omega⟩
theorem wr2 : wrap64 (1 + 1) = 2 := IntWalk.wrap64_in _ ⟨by omega, by omega⟩
theorem k2_w (l : List Int) : (erD (k1 l) 0).wear 0 = 1 := by show wrap64 (0 + 1) = 1; exact wr1
theorem k2_s (l : List Int) : (erD (k1 l) 0).strokes = 2 := by show wrap64 (wrap64 (0 + 1) + 1) = 2; rw [wr1, wr2]

end Go.Proofs.Ytfimllickcmdhaa
