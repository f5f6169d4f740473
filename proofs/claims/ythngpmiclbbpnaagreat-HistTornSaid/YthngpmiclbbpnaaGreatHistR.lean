/-
  Operations that are right, as the document tells it. Nothing of one statement alone stands here.
-/
import Derived.Test.YthngpmiclbbpnaaGreatHistP
namespace Go.Proofs.YthngpmiclbbpnaaGreat
open Go.RowKit Crcm Tagm Go.ChangeShapes

end Go.Proofs.YthngpmiclbbpnaaGreat
