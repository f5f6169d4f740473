/-
  What the two calls Put answer (the program's and the document's): eight steps over a remainder and a byte.
-/
import Derived.Test.YtiaaeiefgnoiaaaRows
import Derived.WalkKit
import Derived.Lib.Hide
import Derived.Outline
import Derived.Test.YtiaaeiefgnoiaaaCrcNum
namespace Go.Proofs.Ytiaaeiefgnoiaaa
open Go.RowKit Crcm

theorem ret_u32 {a b : Int} (h : a = b) : Ending.returned (.int .u32 a) = .returned (.int .u32 b) := by rw [h]

/-- a remainder with a byte -/
def pt (r b : Int) : Int := N (it 8 (V r ^^^ V b))
theorem U32_pt (r b : Int) : U32 (pt r b) := U32_N _

end Go.Proofs.Ytiaaeiefgnoiaaa
