/-
  The law NandKeeps, its arguments as the frame hands them.
-/
import Derived.Test.YtjpiaanpkpjpcaaKeepsW
import Derived.Test.YtjpiaanpkpjpcaaNandSized
namespace Go.Proofs.Ytjpiaanpkpjpcaa
open Go.RowKit Crcm Tagm Go.ChangeShapes

theorem nandKeeps_walk (x y z : Int) (a1 : Option Addr) (l1 c1 : Nat) (z1 : List Int) (a2 : Option Addr) (l2 c2 : Nat) (z2 : List Oz) (i3 i4 : Int) (a5 : Option Addr) (l5 c5 : Nat) (z5 : List Oz) (w : World)
    (_ : (Lit.int .i64 x).wf = true) (_ : (Lit.int .i64 y).wf = true) (_ : (Lit.int .i64 z).wf = true) (w1 : Ri w a1 z1) (u1 : z1.length = l1) (w2 : Ro w a2 z2) (u2 : z2.length = l2) (t2 : ∀ y ∈ z2, SzO y) (_ : (Lit.int .i64 i3).wf = true) (_ : (Lit.int .i64 i4).wf = true) (w5 : Ro w a5 z5) (u5 : z5.length = l5) (t5 : ∀ y ∈ z5, SzO y) :
    Calls Try.prog 4 #[.agg #[.int .i64 x, .int .i64 y, .int .i64 z], .slice a1 l1 c1, .slice a2 l2 c2, .int .i64 i3, .int .i64 i4, .slice a5 l5 c5] w fun e w' => e = .returned (.bool true) ∧ Below w.heap.size w w' :=
  nandKeeps_core x y z a1 l1 c1 z1 a2 l2 c2 z2 i3 i4 a5 l5 c5 z5 w w1 u1 w2 u2 t2 w5 u5 t5

end Go.Proofs.Ytjpiaanpkpjpcaa
