/-
  Whether two rows of texts are alike, whether one begins another, how great one is: the program's answers and the document's. Nothing of one statement alone stands here.
-/
import Derived.Test.YtbgimehbencdgaaStrRows
namespace Go.Proofs.Ytbgimehbencdgaa
open Go.RowKit Go.ChangeShapes
instance : DecidableEq ByteArray := fun a b => decidable_of_iff (a.toList = b.toList) ⟨fun h => by
  rw [ByteArray.toList_eq, ByteArray.toList_eq] at h
  obtain ⟨⟨x⟩⟩ := a
  obtain ⟨⟨y⟩⟩ := b
  simpa using h, fun h => by rw [h]⟩
theorem str_eq {x y : ByteArray} (h : x = y) : (x.toList == y.toList) = true := by rw [h]; exact beq_self_eq_true _
theorem str_ne {x y : ByteArray} (h : x ≠ y) : (x.toList == y.toList) = false := by
  refine Bool.eq_false_iff.2 fun g => h ?_
  have g := eq_of_beq g
  rw [ByteArray.toList_eq, ByteArray.toList_eq] at g
  obtain ⟨⟨p⟩⟩ := x
  obtain ⟨⟨q⟩⟩ := y
  simpa using g

/-- whether a row lies in another one: it begins it, and is shorter -/
def Ins (l m : List ByteArray) : Prop := m.length < l.length ∧ l.take m.length = m
instance (l m : List ByteArray) : Decidable (Ins l m) := by unfold Ins; infer_instance

end Go.Proofs.Ytbgimehbencdgaa
