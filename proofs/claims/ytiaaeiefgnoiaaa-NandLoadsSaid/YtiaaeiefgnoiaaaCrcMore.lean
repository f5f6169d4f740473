/-
  What the calls More and Sum answer (the program's and the document's): the remainder behind a row of bytes, turned.
-/
import Derived.Test.YtiaaeiefgnoiaaaCrcPut
namespace Go.Proofs.Ytiaaeiefgnoiaaa
open Go.RowKit Crcm

/-- a slice that reads as these bytes: where there is one, the first lies at the address -/
def Rw (w : World) (a : Option Addr) (zs : List Int) : Prop :=
  (∀ n ∈ zs, U8 n) ∧ zs.length ≤ maxLen ∧ (zs = [] ∨ ∃ b off, a = some ⟨b, off, none⟩ ∧ ∀ i, i < zs.length → w.cell? ⟨b, off + i, none⟩ = some (.int .u8 (zs.getD i 0)))

/-- the sum that goes on -/
def mo (s : Int) (zs : List Int) : Int := N (~~~ F (~~~ V s) (zs.map V))
theorem U32_mo (s : Int) (zs : List Int) : U32 (mo s zs) := U32_N _

end Go.Proofs.Ytiaaeiefgnoiaaa
