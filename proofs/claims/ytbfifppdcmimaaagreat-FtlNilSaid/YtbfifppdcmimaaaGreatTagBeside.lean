/-
  What the document's calls beside and Write answer.
-/
import Derived.Test.YtbfifppdcmimaaaGreatTagWrite
namespace Tagm
open Crcm
/-- the bytes beside a payload -/
def bs (k p s e : Int) (z : List Int) : List Int := hd k p s e ++ le 4 (sm (z ++ hd k p s e)) ++ [0, 0, 0, 0]
theorem bs_length (k p s e : Int) (z : List Int) : (bs k p s e z).length = 32 := by simp [bs, hd_length, le_length]
theorem pg_bs (k p s e : Int) (z : List Int) : pg k p s e z = z ++ bs k p s e z := by simp [pg, bs]
theorem bs_U8 (k p s e : Int) (z : List Int) : ∀ b ∈ bs k p s e z, U8 b := by
  intro b hb
  unfold bs at hb
  rcases List.mem_append.1 hb with hb | hb
  · rcases List.mem_append.1 hb with hb | hb
    · exact hd_U8 _ _ _ _ b hb
    · exact le_U8 _ _ b hb
  · simp at hb; subst hb; unfold U8; omega
end Tagm
namespace Go.Proofs.YtbfifppdcmimaaaGreat
open Go.RowKit Crcm Tagm Go.ChangeShapes

theorem own_below {w w' : World} {base size n : Nat} {e : TypeId} {v : Value} {xs : List Value} (h : w.ownsRow base e size v n xs) (hb : Below w.heap.size w w') : w'.ownsRow base e size v n xs :=
  h.kept (row := none) ⟨hb.os, hb.tape, hb.output, hb.size, fun i hi _ => hb.block i hi⟩ (by cases v.ownBlock with | none => exact .inl rfl | some _ => exact .inr (by simp))

/-- a new row of four bytes is the call's own -/
theorem own_four (w : World) (base g : Nat) (a b c d : Int) (hg : g = w.heap.size) (hb : base ≤ g) :
    (w.alloc (.cells #[.int .u8 a, .int .u8 b, .int .u8 c, .int .u8 d] 5)).ownsRow base 5 1 (.slice (some ⟨g, 0, none⟩) 4 4) 4 ([a, b, c, d].map (Value.int .u8)) := by
  subst hg
  refine ⟨rfl, .inr ⟨w.heap.size, 4, _, rfl, hb, heap_alloc_new w _, Nat.le_refl _, by decide, rfl, rfl⟩⟩

end Go.Proofs.YtbfifppdcmimaaaGreat
