/-
  The statement that any inode has its bytes, or is refused, and that any bytes are an inode's, or none's.
-/
import Derived.Test.YtladgfonkolpmaaInoRefW
import Derived.Test.YtladgfonkolpmaaInoRefD
import Derived.Test.YtladgfonkolpmaaInoOpen
import Derived.Test.YtladgfonkolpmaaLater
namespace Go.Proofs.Ytladgfonkolpmaa
open Go.RowKit Crcm Tagm Inom Go.ChangeShapes

/-- the bytes of an inode, or none; the error beside them -/
def bW (i : Ind) : List Int := if IR i then wb i else []
def eW (i : Ind) : Int := if IR i then 0 else 51
theorem bW_U8 (i : Ind) : ∀ b ∈ bW i, U8 b := by
  unfold bW
  by_cases h : IR i
  · rw [if_pos h]; exact wb_U8 i
  · rw [if_neg h]; simp
theorem iwrite_all (i : Ind) (w : World) : Calls Try.prog 37 #[iv i] w fun e w' => (∃ A c, e = .returned (.tuple #[.slice A (bW i).length c, .int .i64 (eW i)]) ∧ (bW i).length ≤ c ∧ Rw w' A (bW i)) ∧ Below w.heap.size w w' := by
  unfold bW eW
  by_cases h : IR i
  · rw [if_pos h, if_pos h]
    refine (iwrite_yes i w h).mono ?_
    rintro e w' ⟨v, rfl, hown, hb⟩
    obtain ⟨a2, cap2, rfl, hrw2, hlen2, hcap2⟩ := Rw.of_own hown (wb_U8 i)
    exact ⟨⟨a2, cap2, by rw [hlen2], by rw [hlen2]; exact hcap2, hrw2⟩, hb⟩
  · rw [if_neg h, if_neg h]
    refine (iwrite_no i w h).mono ?_
    rintro e w' ⟨rfl, hb⟩
    exact ⟨⟨none, 0, rfl, Nat.le_refl _, Rw.nil⟩, hb⟩
/-- the inode of any bytes, or none; the error beside it -/
def rI (l : List Int) : Ind := if l.length = 24 then rdI l else zi
def rE (l : List Int) : Int := if l.length = 24 then rdE l else 1
end Go.Proofs.Ytladgfonkolpmaa
