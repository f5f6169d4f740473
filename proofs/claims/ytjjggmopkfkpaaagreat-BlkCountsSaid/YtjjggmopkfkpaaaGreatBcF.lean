/-
  The law BlkCounts, its arguments as the frame hands them.
-/
import Derived.Test.YtjjggmopkfkpaaaGreatBcW
import Derived.Test.YtjjggmopkfkpaaaGreatLC
namespace Go.Proofs.YtjjggmopkfkpaaaGreat
open Go.RowKit Crcm Gcm

theorem blkCounts_walk (s : Su) (a : Sa) (a1 : Option Addr) (l1 c1 : Nat) (z1 : List Bo) (w : World) (hs : SuAt w s a) (ho : RoB w a1 z1) (hl : z1.length = l1) :
    Calls Tryz.prog 3 #[.agg (suC s a), .slice a1 l1 c1] w fun e w' => e = .returned (.bool true) ∧ Below w.heap.size w w' :=
  blkCounts_core s a a1 l1 c1 z1 w hs ho hl
end Go.Proofs.YtjjggmopkfkpaaaGreat
