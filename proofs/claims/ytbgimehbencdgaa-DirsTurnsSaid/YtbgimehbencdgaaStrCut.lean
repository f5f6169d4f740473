/-
  A text cut at a byte 47. Nothing of one statement alone stands here.
-/
import Derived.Test.YtbgimehbencdgaaStrFind
import Derived.Lib.IndexLaws
import Derived.BigQuiet
namespace Go.Proofs.Ytbgimehbencdgaa
open Go.RowKit Go.ChangeShapes

/-- what is ahead of a text's first byte 47, what is behind it, and whether there is one -/
def Cut47 (s a b : ByteArray) (k : Bool) : Prop :=
  (k = false ∧ Lib.indexByte s.data.toList 47 < 0 ∧ a = s ∧ b = ⟨#[]⟩) ∨ (k = true ∧ ∃ i : Nat, Lib.indexByte s.data.toList 47 = i ∧ a = s.extract 0 i ∧ b = s.extract (i + 1) s.size)

/-- whether a text begins with a byte 47 -/
def Sl (s : ByteArray) : Prop := ∃ r, s.data.toList = 47 :: r
theorem sl_extract {s : ByteArray} (h : 1 ≤ s.size) : s.extract 0 1 = ⟨#[47]⟩ ↔ Sl s := by
  obtain ⟨⟨l⟩⟩ := s
  match l, h with
  | b :: r, _ =>
    have e : ((⟨⟨b :: r⟩⟩ : ByteArray).extract 0 1) = ⟨#[b]⟩ := by
      apply ByteArray.ext
      simp [ByteArray.data_extract]
    rw [e]
    unfold Sl
    constructor
    · intro g
      injection g with g
      have : b = 47 := by simpa using g
      exact ⟨r, by rw [this]⟩
    · rintro ⟨r', g⟩
      simp only [List.cons.injEq] at g
      rw [g.1]
  | [], h => exact absurd h (by decide)
end Go.Proofs.Ytbgimehbencdgaa
