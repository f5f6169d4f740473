/-
  No cell of these rows narrows 'for every input' (looked for: loops, veiled, ifaces, maps, wideKeys, modest, calm, conditions, laid).
  DERIVED. THE GIVEN ROWS OF THIS SEAT. 5 by the template 'for every input the law returns true; each argument reads behind the call as it read before'; 0 by the template 'total and deterministic' (their statements: YtbgimehbencdgaaTotals.lean).
  GIVEN WITH THE SEED: the statements are not yours to turn. If you find one false, say at which input.
  Laid BY PROGRAM, IN A SANDBOX (cutbox-rows.mjs): the forced cells as the released guide's own fill.sh prints them over the translation 96a634892baf81f3… (all of the seat's roots in one cut). By AI agents, Wed Nov 11 2026. No macro, syntax, notation, axiom, sorry.
-/
import Derived.Test.YtbgimehbencdgaaChecked
import GoSem.Claim
import GoSem.ClaimJoined
import GoSem.ClaimMapViews
import Derived.JoinedTies
import Derived.KernelRfl
namespace Go.Proofs.Ytbgimehbencdgaa
/- THE CELL 'sum', in the pinned program and in every row, IS THE sha256 OF THE DUMP (.gsa) THAT YtbgimehbencdgaaProg.lean LOADS. Nothing in Lean hashes anything: it is a label: what it is worth is what the hold of that sum in a sandbox is worth. -/
noncomputable def Try.pinned : Pinned := { name := "ytbgimehbencdgaa", sum := "96a634892baf81f393f4ef8497e8b2c896336eca830b5005b646ab108dccc972", checked := Try.checked }
namespace Rows
def none {H : Type} : Left H := { results := [], args := [] }

/-- 'cuneiformlaw08.DirsSlots': WHATEVER THE INPUT: true; the input reads as it did. -/
def dirsSlotsSpec : ChangeSpec := { name := "dirsSlots", fn := fun _ => fun
  | [d1, d2] => { results := [.lit (.bool true)], args := [d1, d2] }
  | _ => none }
def dirsSlotsRow : OpenClaim := { program := "ytbgimehbencdgaa", sum := "96a634892baf81f393f4ef8497e8b2c896336eca830b5005b646ab108dccc972", func := "cuneiform/cuneiformlaw08.DirsSlots", spec := "dirsSlots", inPlace := ["internal/bytealg.IndexByteString", "internal/bytealg.IndexString"], named := ["internal/bytealg.MaxLen"], apart := false }
def DirsSlotsSaid : Prop := dirsSlotsRow.holds Try.pinned (OpenSpec.ofChange dirsSlotsSpec)

/-- ITS FALSE NEIGHBOUR: 'it returns false'. Refute it at one input. -/
def dirsSlotsWrong : ChangeSpec := { name := "dirsSlots", fn := fun _ => fun
  | [d1, d2] => { results := [.lit (.bool false)], args := [d1, d2] }
  | _ => none }
def DirsSlotsWrongFalsely : Prop := dirsSlotsRow.holds Try.pinned (OpenSpec.ofChange dirsSlotsWrong)

/-- 'cuneiformlaw08.DirsTurns': WHATEVER THE INPUT: true; the input reads as it did. -/
def dirsTurnsSpec : ChangeSpec := { name := "dirsTurns", fn := fun _ => fun
  | [d1, d2, d3, d4] => { results := [.lit (.bool true)], args := [d1, d2, d3, d4] }
  | _ => none }
def dirsTurnsRow : OpenClaim := { program := "ytbgimehbencdgaa", sum := "96a634892baf81f393f4ef8497e8b2c896336eca830b5005b646ab108dccc972", func := "cuneiform/cuneiformlaw08.DirsTurns", spec := "dirsTurns", inPlace := ["internal/bytealg.IndexByteString", "internal/bytealg.IndexString"], unfollowed := true, recurses := true, named := ["internal/bytealg.MaxLen"], apart := false }
def DirsTurnsSaid : Prop := dirsTurnsRow.holds Try.pinned (OpenSpec.ofChange dirsTurnsSpec)

/-- ITS FALSE NEIGHBOUR: 'it returns false'. Refute it at one input. -/
def dirsTurnsWrong : ChangeSpec := { name := "dirsTurns", fn := fun _ => fun
  | [d1, d2, d3, d4] => { results := [.lit (.bool false)], args := [d1, d2, d3, d4] }
  | _ => none }
def DirsTurnsWrongFalsely : Prop := dirsTurnsRow.holds Try.pinned (OpenSpec.ofChange dirsTurnsWrong)

/-- 'cuneiformlaw08.DirsBack': WHATEVER THE INPUT: true; the input reads as it did. -/
def dirsBackSpec : ChangeSpec := { name := "dirsBack", fn := fun _ => fun
  | [d1, d2] => { results := [.lit (.bool true)], args := [d1, d2] }
  | _ => none }
def dirsBackRow : OpenClaim := { program := "ytbgimehbencdgaa", sum := "96a634892baf81f393f4ef8497e8b2c896336eca830b5005b646ab108dccc972", func := "cuneiform/cuneiformlaw08.DirsBack", spec := "dirsBack", inPlace := ["internal/bytealg.IndexByteString", "internal/bytealg.IndexString"], named := ["internal/bytealg.MaxLen"], apart := false }
def DirsBackSaid : Prop := dirsBackRow.holds Try.pinned (OpenSpec.ofChange dirsBackSpec)

/-- ITS FALSE NEIGHBOUR: 'it returns false'. Refute it at one input. -/
def dirsBackWrong : ChangeSpec := { name := "dirsBack", fn := fun _ => fun
  | [d1, d2] => { results := [.lit (.bool false)], args := [d1, d2] }
  | _ => none }
def DirsBackWrongFalsely : Prop := dirsBackRow.holds Try.pinned (OpenSpec.ofChange dirsBackWrong)

/-- 'cuneiformlaw08.DirsKeeps': WHATEVER THE INPUT: true; the input reads as it did. -/
def dirsKeepsSpec : ChangeSpec := { name := "dirsKeeps", fn := fun _ => fun
  | [d1, d2, d3, d4] => { results := [.lit (.bool true)], args := [d1, d2, d3, d4] }
  | _ => none }
def dirsKeepsRow : OpenClaim := { program := "ytbgimehbencdgaa", sum := "96a634892baf81f393f4ef8497e8b2c896336eca830b5005b646ab108dccc972", func := "cuneiform/cuneiformlaw08.DirsKeeps", spec := "dirsKeeps", inPlace := ["internal/bytealg.IndexByteString", "internal/bytealg.IndexString"], unfollowed := true, recurses := true, named := ["internal/bytealg.MaxLen"], apart := false }
def DirsKeepsSaid : Prop := dirsKeepsRow.holds Try.pinned (OpenSpec.ofChange dirsKeepsSpec)

/-- ITS FALSE NEIGHBOUR: 'it returns false'. Refute it at one input. -/
def dirsKeepsWrong : ChangeSpec := { name := "dirsKeeps", fn := fun _ => fun
  | [d1, d2, d3, d4] => { results := [.lit (.bool false)], args := [d1, d2, d3, d4] }
  | _ => none }
def DirsKeepsWrongFalsely : Prop := dirsKeepsRow.holds Try.pinned (OpenSpec.ofChange dirsKeepsWrong)

/-- 'cuneiformlaw08.DirsUndoes': WHATEVER THE INPUT: true; the input reads as it did. -/
def dirsUndoesSpec : ChangeSpec := { name := "dirsUndoes", fn := fun _ => fun
  | [d1, d2] => { results := [.lit (.bool true)], args := [d1, d2] }
  | _ => none }
def dirsUndoesRow : OpenClaim := { program := "ytbgimehbencdgaa", sum := "96a634892baf81f393f4ef8497e8b2c896336eca830b5005b646ab108dccc972", func := "cuneiform/cuneiformlaw08.DirsUndoes", spec := "dirsUndoes", inPlace := ["internal/bytealg.IndexByteString", "internal/bytealg.IndexString"], unfollowed := true, recurses := true, named := ["internal/bytealg.MaxLen"], apart := false }
def DirsUndoesSaid : Prop := dirsUndoesRow.holds Try.pinned (OpenSpec.ofChange dirsUndoesSpec)

/-- ITS FALSE NEIGHBOUR: 'it returns false'. Refute it at one input. -/
def dirsUndoesWrong : ChangeSpec := { name := "dirsUndoes", fn := fun _ => fun
  | [d1, d2] => { results := [.lit (.bool false)], args := [d1, d2] }
  | _ => none }
def DirsUndoesWrongFalsely : Prop := dirsUndoesRow.holds Try.pinned (OpenSpec.ofChange dirsUndoesWrong)

/- THE SECOND FORM. 'bulk': how many values and letters a reading holds, each counted each time it is reached (what is shared counts as often as it is met; a slice's spare places count too). A statement '..UptoSaid' is the law's where the arguments, and the package variables that the reading takes, are together of bulk at most 1048576: NARROWER than '..Said'. Prove '..Said' where nothing that the law and all that it calls make is longer than what came in: it says more and counts as full. Else prove '..UptoSaid'. A law counts once. -/
mutual
def uptoBulk {H : Type} : DataW H → Nat
  | .lit (.string bytes) => bytes.length + 1
  | .lit _ => 1
  | .nil => 1
  | .ptr d => uptoBulk d + 1
  | .slice elems spare => uptoBulkAll elems + uptoBulkAll spare + 1
  | .agg parts => uptoBulkAll parts + 1
  | .iface _ d => uptoBulk d + 1
  | .map entries => uptoBulkEntries entries + 1
  | .held _ => 1
def uptoBulkAll {H : Type} : List (DataW H) → Nat
  | [] => 0
  | d :: r => uptoBulk d + uptoBulkAll r
def uptoBulkEntries {H : Type} : List (Lit × DataW H) → Nat
  | [] => 0
  | x :: r => uptoBulkEntry x + uptoBulkEntries r
def uptoBulkEntry {H : Type} : Lit × DataW H → Nat
  | (.string bytes, d) => bytes.length + uptoBulk d + 1
  | (_, d) => uptoBulk d + 1
 end
def uptoSmall : (H : Type) → List (DataW H) → Bool := fun _ ds => decide (uptoBulkAll ds ≤ 1048576)
def OpenSpec.upto (s : _root_.Go.ChangeSpec) : _root_.Go.OpenSpec := { _root_.Go.OpenSpec.ofChange s with cond := some uptoSmall }

/-- 'cuneiformlaw08.DirsSlots', WHERE WHAT IT READS IS OF BULK AT MOST 1048576: true; the input reads as it did. -/
def dirsSlotsUptoRow : OpenClaim := { program := "ytbgimehbencdgaa", sum := "96a634892baf81f393f4ef8497e8b2c896336eca830b5005b646ab108dccc972", func := "cuneiform/cuneiformlaw08.DirsSlots", spec := "dirsSlots", inPlace := ["internal/bytealg.IndexByteString", "internal/bytealg.IndexString"], named := ["internal/bytealg.MaxLen"], apart := false, narrowed := true }
def DirsSlotsUptoSaid : Prop := dirsSlotsUptoRow.holds Try.pinned (OpenSpec.upto dirsSlotsSpec)

/-- 'cuneiformlaw08.DirsTurns', WHERE WHAT IT READS IS OF BULK AT MOST 1048576: true; the input reads as it did. -/
def dirsTurnsUptoRow : OpenClaim := { program := "ytbgimehbencdgaa", sum := "96a634892baf81f393f4ef8497e8b2c896336eca830b5005b646ab108dccc972", func := "cuneiform/cuneiformlaw08.DirsTurns", spec := "dirsTurns", inPlace := ["internal/bytealg.IndexByteString", "internal/bytealg.IndexString"], unfollowed := true, recurses := true, named := ["internal/bytealg.MaxLen"], apart := false, narrowed := true }
def DirsTurnsUptoSaid : Prop := dirsTurnsUptoRow.holds Try.pinned (OpenSpec.upto dirsTurnsSpec)

/-- 'cuneiformlaw08.DirsBack', WHERE WHAT IT READS IS OF BULK AT MOST 1048576: true; the input reads as it did. -/
def dirsBackUptoRow : OpenClaim := { program := "ytbgimehbencdgaa", sum := "96a634892baf81f393f4ef8497e8b2c896336eca830b5005b646ab108dccc972", func := "cuneiform/cuneiformlaw08.DirsBack", spec := "dirsBack", inPlace := ["internal/bytealg.IndexByteString", "internal/bytealg.IndexString"], named := ["internal/bytealg.MaxLen"], apart := false, narrowed := true }
def DirsBackUptoSaid : Prop := dirsBackUptoRow.holds Try.pinned (OpenSpec.upto dirsBackSpec)

/-- 'cuneiformlaw08.DirsKeeps', WHERE WHAT IT READS IS OF BULK AT MOST 1048576: true; the input reads as it did. -/
def dirsKeepsUptoRow : OpenClaim := { program := "ytbgimehbencdgaa", sum := "96a634892baf81f393f4ef8497e8b2c896336eca830b5005b646ab108dccc972", func := "cuneiform/cuneiformlaw08.DirsKeeps", spec := "dirsKeeps", inPlace := ["internal/bytealg.IndexByteString", "internal/bytealg.IndexString"], unfollowed := true, recurses := true, named := ["internal/bytealg.MaxLen"], apart := false, narrowed := true }
def DirsKeepsUptoSaid : Prop := dirsKeepsUptoRow.holds Try.pinned (OpenSpec.upto dirsKeepsSpec)

/-- 'cuneiformlaw08.DirsUndoes', WHERE WHAT IT READS IS OF BULK AT MOST 1048576: true; the input reads as it did. -/
def dirsUndoesUptoRow : OpenClaim := { program := "ytbgimehbencdgaa", sum := "96a634892baf81f393f4ef8497e8b2c896336eca830b5005b646ab108dccc972", func := "cuneiform/cuneiformlaw08.DirsUndoes", spec := "dirsUndoes", inPlace := ["internal/bytealg.IndexByteString", "internal/bytealg.IndexString"], unfollowed := true, recurses := true, named := ["internal/bytealg.MaxLen"], apart := false, narrowed := true }
def DirsUndoesUptoSaid : Prop := dirsUndoesUptoRow.holds Try.pinned (OpenSpec.upto dirsUndoesSpec)

end Rows
end Go.Proofs.Ytbgimehbencdgaa
