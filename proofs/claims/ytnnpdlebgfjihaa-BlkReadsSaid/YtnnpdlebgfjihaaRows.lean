/-
  No cell of these rows narrows 'for every input' (looked for: loops, veiled, ifaces, maps, wideKeys, modest, calm, conditions, laid).
  DERIVED. THE GIVEN ROWS OF THIS SEAT. 3 by the template 'for every input the law returns true; each argument reads behind the call as it read before'; 0 by the template 'total and deterministic' (their statements: YtnnpdlebgfjihaaTotals.lean).
  GIVEN WITH THE SEED: the statements are not yours to turn. If you find one false, say at which input.
  Laid BY PROGRAM, IN A SANDBOX (cutbox-rows.mjs): the forced cells as the released guide's own fill.sh prints them over the translation 4652774e71555c92… (all of the seat's roots in one cut). By AI agents, Wed Nov 11 2026. No macro, syntax, notation, axiom, sorry.
-/
import Derived.Test.YtnnpdlebgfjihaaChecked
import GoSem.Claim
import GoSem.ClaimJoined
import GoSem.ClaimMapViews
import Derived.JoinedTies
import Derived.KernelRfl
namespace Go.Proofs.Ytnnpdlebgfjihaa
/- THE CELL 'sum', in the pinned program and in every row, IS THE sha256 OF THE DUMP (.gsa) THAT YtnnpdlebgfjihaaProg.lean LOADS. Nothing in Lean hashes anything: it is a label: what it is worth is what the hold of that sum in a sandbox is worth. -/
noncomputable def Try.pinned : Pinned := { name := "ytnnpdlebgfjihaa", sum := "4652774e71555c92a02262825219574da33a8a8cf230930c3310217fcaf02601", checked := Try.checked }
namespace Rows
def none {H : Type} : Left H := { results := [], args := [] }

/-- 'cuneiformlaw06.BlkReads': WHATEVER THE INPUT: true; the input reads as it did. -/
def blkReadsSpec : ChangeSpec := { name := "blkReads", fn := fun _ => fun
  | [d1, d2] => { results := [.lit (.bool true)], args := [d1, d2] }
  | _ => none }
def blkReadsRow : OpenClaim := { program := "ytnnpdlebgfjihaa", sum := "4652774e71555c92a02262825219574da33a8a8cf230930c3310217fcaf02601", func := "cuneiform/cuneiformlaw06.BlkReads", spec := "blkReads", unfollowed := true, recurses := true, apart := false }
def BlkReadsSaid : Prop := blkReadsRow.holds Try.pinned (OpenSpec.ofChange blkReadsSpec)

/-- ITS FALSE NEIGHBOUR: 'it returns false'. Refute it at one input. -/
def blkReadsWrong : ChangeSpec := { name := "blkReads", fn := fun _ => fun
  | [d1, d2] => { results := [.lit (.bool false)], args := [d1, d2] }
  | _ => none }
def BlkReadsWrongFalsely : Prop := blkReadsRow.holds Try.pinned (OpenSpec.ofChange blkReadsWrong)

/-- 'cuneiformlaw06.BlkNil': WHATEVER THE INPUT: true; the input reads as it did. -/
def blkNilSpec : ChangeSpec := { name := "blkNil", fn := fun _ => fun
  | [d1, d2] => { results := [.lit (.bool true)], args := [d1, d2] }
  | _ => none }
def blkNilRow : OpenClaim := { program := "ytnnpdlebgfjihaa", sum := "4652774e71555c92a02262825219574da33a8a8cf230930c3310217fcaf02601", func := "cuneiform/cuneiformlaw06.BlkNil", spec := "blkNil", unfollowed := true, recurses := true, apart := false }
def BlkNilSaid : Prop := blkNilRow.holds Try.pinned (OpenSpec.ofChange blkNilSpec)

/-- ITS FALSE NEIGHBOUR: 'it returns false'. Refute it at one input. -/
def blkNilWrong : ChangeSpec := { name := "blkNil", fn := fun _ => fun
  | [d1, d2] => { results := [.lit (.bool false)], args := [d1, d2] }
  | _ => none }
def BlkNilWrongFalsely : Prop := blkNilRow.holds Try.pinned (OpenSpec.ofChange blkNilWrong)

/-- 'cuneiformtop.TopWears': WHATEVER THE INPUT: true; the input reads as it did. -/
def topWearsSpec : ChangeSpec := { name := "topWears", fn := fun _ => fun
  | [d] => { results := [.lit (.bool true)], args := [d] }
  | _ => none }
def topWearsRow : OpenClaim := { program := "ytnnpdlebgfjihaa", sum := "4652774e71555c92a02262825219574da33a8a8cf230930c3310217fcaf02601", func := "cuneiform/cuneiformtop.TopWears", spec := "topWears", unfollowed := true, recurses := true, apart := false }
def TopWearsSaid : Prop := topWearsRow.holds Try.pinned (OpenSpec.ofChange topWearsSpec)

/-- ITS FALSE NEIGHBOUR: 'it returns false'. Refute it at one input. -/
def topWearsWrong : ChangeSpec := { name := "topWears", fn := fun _ => fun
  | [d] => { results := [.lit (.bool false)], args := [d] }
  | _ => none }
def TopWearsWrongFalsely : Prop := topWearsRow.holds Try.pinned (OpenSpec.ofChange topWearsWrong)

/- THE SECOND FORM. 'bulk': how many values and letters a reading holds, each counted each time it is reached (what is shared counts as often as it is met; a slice's spare places count too). A statement '..UptoSaid' is the law's where the arguments, and the package variables that the reading takes, are together of bulk at most 1048576: NARROWER than '..Said'. Prove '..Said' where nothing that the law and all that it calls make is longer than what came in: it says more and counts as full. Else prove '..UptoSaid'. A law counts once. -/
mutual
def uptoBulk {H : Type} : DataW H → Nat
  | .lit (.string bytes) => bytes.length + 1
  | .lit _ => 1
  | .nil => 1
  | .ptr d => uptoBulk d + 1
  | .slice elems spare => uptoBulkAll elems + uptoBulkAll spare + 1
  | .agg parts => uptoBulkAll parts + 1
  | .iface _ d => uptoBulk d + 1
  | .map entries => uptoBulkEntries entries + 1
  | .held _ => 1
def uptoBulkAll {H : Type} : List (DataW H) → Nat
  | [] => 0
  | d :: r => uptoBulk d + uptoBulkAll r
def uptoBulkEntries {H : Type} : List (Lit × DataW H) → Nat
  | [] => 0
  | x :: r => uptoBulkEntry x + uptoBulkEntries r
def uptoBulkEntry {H : Type} : Lit × DataW H → Nat
  | (.string bytes, d) => bytes.length + uptoBulk d + 1
  | (_, d) => uptoBulk d + 1
 end
def uptoSmall : (H : Type) → List (DataW H) → Bool := fun _ ds => decide (uptoBulkAll ds ≤ 1048576)
def OpenSpec.upto (s : _root_.Go.ChangeSpec) : _root_.Go.OpenSpec := { _root_.Go.OpenSpec.ofChange s with cond := some uptoSmall }

/-- 'cuneiformlaw06.BlkReads', WHERE WHAT IT READS IS OF BULK AT MOST 1048576: true; the input reads as it did. -/
def blkReadsUptoRow : OpenClaim := { program := "ytnnpdlebgfjihaa", sum := "4652774e71555c92a02262825219574da33a8a8cf230930c3310217fcaf02601", func := "cuneiform/cuneiformlaw06.BlkReads", spec := "blkReads", unfollowed := true, recurses := true, apart := false, narrowed := true }
def BlkReadsUptoSaid : Prop := blkReadsUptoRow.holds Try.pinned (OpenSpec.upto blkReadsSpec)

/-- 'cuneiformlaw06.BlkNil', WHERE WHAT IT READS IS OF BULK AT MOST 1048576: true; the input reads as it did. -/
def blkNilUptoRow : OpenClaim := { program := "ytnnpdlebgfjihaa", sum := "4652774e71555c92a02262825219574da33a8a8cf230930c3310217fcaf02601", func := "cuneiform/cuneiformlaw06.BlkNil", spec := "blkNil", unfollowed := true, recurses := true, apart := false, narrowed := true }
def BlkNilUptoSaid : Prop := blkNilUptoRow.holds Try.pinned (OpenSpec.upto blkNilSpec)

/-- 'cuneiformtop.TopWears', WHERE WHAT IT READS IS OF BULK AT MOST 1048576: true; the input reads as it did. -/
def topWearsUptoRow : OpenClaim := { program := "ytnnpdlebgfjihaa", sum := "4652774e71555c92a02262825219574da33a8a8cf230930c3310217fcaf02601", func := "cuneiform/cuneiformtop.TopWears", spec := "topWears", unfollowed := true, recurses := true, apart := false, narrowed := true }
def TopWearsUptoSaid : Prop := topWearsUptoRow.holds Try.pinned (OpenSpec.upto topWearsSpec)

end Rows
end Go.Proofs.Ytnnpdlebgfjihaa
