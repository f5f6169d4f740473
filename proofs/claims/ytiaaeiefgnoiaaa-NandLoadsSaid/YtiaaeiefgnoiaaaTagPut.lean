/-
  What the small calls of the tags answer (the program's and the document's): right tags, sizes, numbers in bytes, bytes held against one another.
-/
import Derived.Test.YtiaaeiefgnoiaaaBytes
import Derived.Test.YtiaaeiefgnoiaaaTagMath
import Derived.Outline
namespace Go.Proofs.Ytiaaeiefgnoiaaa
open Go.RowKit Crcm Tagm Go.ChangeShapes

/-- a tag as it is handed over -/
def tg (k p s e : Int) : Value := .agg #[.int .i64 k, .int .u32 p, .int .u64 s, .int .u64 e]
/-- a number of 64 digits -/
def U64 (n : Int) : Prop := 0 ≤ n ∧ n < 18446744073709551616

/-- a number counts -/
def Ct (n : Int) : Prop := 1 ≤ n ∧ n < 4611686018427387904
instance (n : Int) : Decidable (Ct n) := by unfold Ct; infer_instance
theorem Rt_iff (k p s e : Int) (hp : 0 ≤ p) : Rt k p s e ↔ (k = 1 ∨ k = 2) ∧ p < 8192 ∧ Ct s ∧ Ct e := by unfold Rt Ct; omega

/-- the other form of the same tests -/
theorem Rt_iff' (k p s e : Int) (hp : 0 ≤ p) : Rt k p s e ↔ (k = 1 ∨ k = 2) ∧ ¬ 8191 < p ∧ (0 < s ∧ s ≤ 4611686018427387903) ∧ (0 < e ∧ e ≤ 4611686018427387903) := by unfold Rt; omega
/-- a number behind a name -/
def Big62 (n : Int) : Prop := n ≤ 4611686018427387903

end Go.Proofs.Ytiaaeiefgnoiaaa
