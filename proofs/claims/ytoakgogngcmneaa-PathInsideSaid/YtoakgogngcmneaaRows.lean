/-
  No cell of these rows narrows 'for every input' (looked for: loops, veiled, ifaces, maps, wideKeys, modest, calm, conditions, laid).
  DERIVED. THE GIVEN ROWS OF THIS SEAT. 12 by the template 'for every input the law returns true; each argument reads behind the call as it read before'; 0 by the template 'total and deterministic' (their statements: YtoakgogngcmneaaTotals.lean).
  GIVEN WITH THE SEED: the statements are not yours to turn. If you find one false, say at which input.
  Laid BY PROGRAM, IN A SANDBOX (cutbox-rows.mjs): the forced cells as the released guide's own fill.sh prints them over the translation 44e01ac05dc2531c… (all of the seat's roots in one cut). By AI agents, Wed Nov 11 2026. No macro, syntax, notation, axiom, sorry.
-/
import Derived.Test.YtoakgogngcmneaaChecked
import GoSem.Claim
import GoSem.ClaimJoined
import GoSem.ClaimMapViews
import Derived.JoinedTies
import Derived.KernelRfl
namespace Go.Proofs.Ytoakgogngcmneaa
/- THE CELL 'sum', in the pinned program and in every row, IS THE sha256 OF THE DUMP (.gsa) THAT YtoakgogngcmneaaProg.lean LOADS. Nothing in Lean hashes anything: it is a label: what it is worth is what the hold of that sum in a sandbox is worth. -/
noncomputable def Try.pinned : Pinned := { name := "ytoakgogngcmneaa", sum := "44e01ac05dc2531c2f54de4abbac468373335defccc635a2143357cc323192d9", checked := Try.checked }
namespace Rows
def none {H : Type} : Left H := { results := [], args := [] }

/-- 'cuneiformlaw04.PathParses': WHATEVER THE INPUT: true; the input reads as it did. -/
def pathParsesSpec : ChangeSpec := { name := "pathParses", fn := fun _ => fun
  | [d] => { results := [.lit (.bool true)], args := [d] }
  | _ => none }
def pathParsesRow : OpenClaim := { program := "ytoakgogngcmneaa", sum := "44e01ac05dc2531c2f54de4abbac468373335defccc635a2143357cc323192d9", func := "cuneiform/cuneiformlaw04.PathParses", spec := "pathParses", inPlace := ["internal/bytealg.IndexByteString", "internal/bytealg.IndexString"], unfollowed := true, recurses := true, named := ["internal/bytealg.MaxLen"], apart := false }
def PathParsesSaid : Prop := pathParsesRow.holds Try.pinned (OpenSpec.ofChange pathParsesSpec)

/-- ITS FALSE NEIGHBOUR: 'it returns false'. Refute it at one input. -/
def pathParsesWrong : ChangeSpec := { name := "pathParses", fn := fun _ => fun
  | [d] => { results := [.lit (.bool false)], args := [d] }
  | _ => none }
def PathParsesWrongFalsely : Prop := pathParsesRow.holds Try.pinned (OpenSpec.ofChange pathParsesWrong)

/-- 'cuneiformlaw04.PathSplits': WHATEVER THE INPUT: true; the input reads as it did. -/
def pathSplitsSpec : ChangeSpec := { name := "pathSplits", fn := fun _ => fun
  | [d1, d2, d3] => { results := [.lit (.bool true)], args := [d1, d2, d3] }
  | _ => none }
def pathSplitsRow : OpenClaim := { program := "ytoakgogngcmneaa", sum := "44e01ac05dc2531c2f54de4abbac468373335defccc635a2143357cc323192d9", func := "cuneiform/cuneiformlaw04.PathSplits", spec := "pathSplits", inPlace := ["internal/bytealg.IndexByteString", "internal/bytealg.IndexString", "internal/abi.NoEscape", "internal/bytealg.MakeNoZero"], unfollowed := true, recurses := true, named := ["internal/bytealg.MaxLen"], apart := false }
def PathSplitsSaid : Prop := pathSplitsRow.holds Try.pinned (OpenSpec.ofChange pathSplitsSpec)

/-- ITS FALSE NEIGHBOUR: 'it returns false'. Refute it at one input. -/
def pathSplitsWrong : ChangeSpec := { name := "pathSplits", fn := fun _ => fun
  | [d1, d2, d3] => { results := [.lit (.bool false)], args := [d1, d2, d3] }
  | _ => none }
def PathSplitsWrongFalsely : Prop := pathSplitsRow.holds Try.pinned (OpenSpec.ofChange pathSplitsWrong)

/-- 'cuneiformlaw04.PathBack': WHATEVER THE INPUT: true; the input reads as it did. -/
def pathBackSpec : ChangeSpec := { name := "pathBack", fn := fun _ => fun
  | [d1, d2] => { results := [.lit (.bool true)], args := [d1, d2] }
  | _ => none }
def pathBackRow : OpenClaim := { program := "ytoakgogngcmneaa", sum := "44e01ac05dc2531c2f54de4abbac468373335defccc635a2143357cc323192d9", func := "cuneiform/cuneiformlaw04.PathBack", spec := "pathBack", inPlace := ["internal/bytealg.IndexByteString", "internal/bytealg.IndexString", "internal/abi.NoEscape", "internal/bytealg.MakeNoZero"], unfollowed := true, recurses := true, named := ["internal/bytealg.MaxLen"], apart := false }
def PathBackSaid : Prop := pathBackRow.holds Try.pinned (OpenSpec.ofChange pathBackSpec)

/-- ITS FALSE NEIGHBOUR: 'it returns false'. Refute it at one input. -/
def pathBackWrong : ChangeSpec := { name := "pathBack", fn := fun _ => fun
  | [d1, d2] => { results := [.lit (.bool false)], args := [d1, d2] }
  | _ => none }
def PathBackWrongFalsely : Prop := pathBackRow.holds Try.pinned (OpenSpec.ofChange pathBackWrong)

/-- 'cuneiformlaw04.PathSlashes': WHATEVER THE INPUT: true; the input reads as it did. -/
def pathSlashesSpec : ChangeSpec := { name := "pathSlashes", fn := fun _ => fun
  | [d1, d2, d3] => { results := [.lit (.bool true)], args := [d1, d2, d3] }
  | _ => none }
def pathSlashesRow : OpenClaim := { program := "ytoakgogngcmneaa", sum := "44e01ac05dc2531c2f54de4abbac468373335defccc635a2143357cc323192d9", func := "cuneiform/cuneiformlaw04.PathSlashes", spec := "pathSlashes", inPlace := ["internal/bytealg.IndexByteString", "internal/bytealg.IndexString"], unfollowed := true, recurses := true, named := ["internal/bytealg.MaxLen"], apart := false }
def PathSlashesSaid : Prop := pathSlashesRow.holds Try.pinned (OpenSpec.ofChange pathSlashesSpec)

/-- ITS FALSE NEIGHBOUR: 'it returns false'. Refute it at one input. -/
def pathSlashesWrong : ChangeSpec := { name := "pathSlashes", fn := fun _ => fun
  | [d1, d2, d3] => { results := [.lit (.bool false)], args := [d1, d2, d3] }
  | _ => none }
def PathSlashesWrongFalsely : Prop := pathSlashesRow.holds Try.pinned (OpenSpec.ofChange pathSlashesWrong)

/-- 'cuneiformlaw04.PathInside': WHATEVER THE INPUT: true; the input reads as it did. -/
def pathInsideSpec : ChangeSpec := { name := "pathInside", fn := fun _ => fun
  | [d1, d2, d3] => { results := [.lit (.bool true)], args := [d1, d2, d3] }
  | _ => none }
def pathInsideRow : OpenClaim := { program := "ytoakgogngcmneaa", sum := "44e01ac05dc2531c2f54de4abbac468373335defccc635a2143357cc323192d9", func := "cuneiform/cuneiformlaw04.PathInside", spec := "pathInside", inPlace := ["internal/bytealg.IndexByteString", "internal/bytealg.IndexString"], unfollowed := true, recurses := true, named := ["internal/bytealg.MaxLen"], apart := false }
def PathInsideSaid : Prop := pathInsideRow.holds Try.pinned (OpenSpec.ofChange pathInsideSpec)

/-- ITS FALSE NEIGHBOUR: 'it returns false'. Refute it at one input. -/
def pathInsideWrong : ChangeSpec := { name := "pathInside", fn := fun _ => fun
  | [d1, d2, d3] => { results := [.lit (.bool false)], args := [d1, d2, d3] }
  | _ => none }
def PathInsideWrongFalsely : Prop := pathInsideRow.holds Try.pinned (OpenSpec.ofChange pathInsideWrong)

/-- 'cuneiformlaw05.GcTells': WHATEVER THE INPUT: true; the input reads as it did. -/
def gcTellsSpec : ChangeSpec := { name := "gcTells", fn := fun _ => fun
  | [d1, d2, d3, d4] => { results := [.lit (.bool true)], args := [d1, d2, d3, d4] }
  | _ => none }
def gcTellsRow : OpenClaim := { program := "ytoakgogngcmneaa", sum := "44e01ac05dc2531c2f54de4abbac468373335defccc635a2143357cc323192d9", func := "cuneiform/cuneiformlaw05.GcTells", spec := "gcTells", unfollowed := true, recurses := true, apart := false }
def GcTellsSaid : Prop := gcTellsRow.holds Try.pinned (OpenSpec.ofChange gcTellsSpec)

/-- ITS FALSE NEIGHBOUR: 'it returns false'. Refute it at one input. -/
def gcTellsWrong : ChangeSpec := { name := "gcTells", fn := fun _ => fun
  | [d1, d2, d3, d4] => { results := [.lit (.bool false)], args := [d1, d2, d3, d4] }
  | _ => none }
def GcTellsWrongFalsely : Prop := gcTellsRow.holds Try.pinned (OpenSpec.ofChange gcTellsWrong)

/-- 'cuneiformlaw05.GcNexts': WHATEVER THE INPUT: true; the input reads as it did. -/
def gcNextsSpec : ChangeSpec := { name := "gcNexts", fn := fun _ => fun
  | [d1, d2, d3] => { results := [.lit (.bool true)], args := [d1, d2, d3] }
  | _ => none }
def gcNextsRow : OpenClaim := { program := "ytoakgogngcmneaa", sum := "44e01ac05dc2531c2f54de4abbac468373335defccc635a2143357cc323192d9", func := "cuneiform/cuneiformlaw05.GcNexts", spec := "gcNexts", unfollowed := true, recurses := true, apart := false }
def GcNextsSaid : Prop := gcNextsRow.holds Try.pinned (OpenSpec.ofChange gcNextsSpec)

/-- ITS FALSE NEIGHBOUR: 'it returns false'. Refute it at one input. -/
def gcNextsWrong : ChangeSpec := { name := "gcNexts", fn := fun _ => fun
  | [d1, d2, d3] => { results := [.lit (.bool false)], args := [d1, d2, d3] }
  | _ => none }
def GcNextsWrongFalsely : Prop := gcNextsRow.holds Try.pinned (OpenSpec.ofChange gcNextsWrong)

/-- 'cuneiformlaw05.GcFollows': WHATEVER THE INPUT: true; the input reads as it did. -/
def gcFollowsSpec : ChangeSpec := { name := "gcFollows", fn := fun _ => fun
  | [d1, d2, d3, d4] => { results := [.lit (.bool true)], args := [d1, d2, d3, d4] }
  | _ => none }
def gcFollowsRow : OpenClaim := { program := "ytoakgogngcmneaa", sum := "44e01ac05dc2531c2f54de4abbac468373335defccc635a2143357cc323192d9", func := "cuneiform/cuneiformlaw05.GcFollows", spec := "gcFollows", unfollowed := true, recurses := true, apart := false }
def GcFollowsSaid : Prop := gcFollowsRow.holds Try.pinned (OpenSpec.ofChange gcFollowsSpec)

/-- ITS FALSE NEIGHBOUR: 'it returns false'. Refute it at one input. -/
def gcFollowsWrong : ChangeSpec := { name := "gcFollows", fn := fun _ => fun
  | [d1, d2, d3, d4] => { results := [.lit (.bool false)], args := [d1, d2, d3, d4] }
  | _ => none }
def GcFollowsWrongFalsely : Prop := gcFollowsRow.holds Try.pinned (OpenSpec.ofChange gcFollowsWrong)

/-- 'cuneiformlaw05.GcSpreads': WHATEVER THE INPUT: true; the input reads as it did. -/
def gcSpreadsSpec : ChangeSpec := { name := "gcSpreads", fn := fun _ => fun
  | [d1, d2, d3] => { results := [.lit (.bool true)], args := [d1, d2, d3] }
  | _ => none }
def gcSpreadsRow : OpenClaim := { program := "ytoakgogngcmneaa", sum := "44e01ac05dc2531c2f54de4abbac468373335defccc635a2143357cc323192d9", func := "cuneiform/cuneiformlaw05.GcSpreads", spec := "gcSpreads", unfollowed := true, recurses := true, apart := false }
def GcSpreadsSaid : Prop := gcSpreadsRow.holds Try.pinned (OpenSpec.ofChange gcSpreadsSpec)

/-- ITS FALSE NEIGHBOUR: 'it returns false'. Refute it at one input. -/
def gcSpreadsWrong : ChangeSpec := { name := "gcSpreads", fn := fun _ => fun
  | [d1, d2, d3] => { results := [.lit (.bool false)], args := [d1, d2, d3] }
  | _ => none }
def GcSpreadsWrongFalsely : Prop := gcSpreadsRow.holds Try.pinned (OpenSpec.ofChange gcSpreadsWrong)

/-- 'cuneiformlaw05.GcNothing': WHATEVER THE INPUT: true; the input reads as it did. -/
def gcNothingSpec : ChangeSpec := { name := "gcNothing", fn := fun _ => fun
  | [d1, d2, d3] => { results := [.lit (.bool true)], args := [d1, d2, d3] }
  | _ => none }
def gcNothingRow : OpenClaim := { program := "ytoakgogngcmneaa", sum := "44e01ac05dc2531c2f54de4abbac468373335defccc635a2143357cc323192d9", func := "cuneiform/cuneiformlaw05.GcNothing", spec := "gcNothing", unfollowed := true, recurses := true, apart := false }
def GcNothingSaid : Prop := gcNothingRow.holds Try.pinned (OpenSpec.ofChange gcNothingSpec)

/-- ITS FALSE NEIGHBOUR: 'it returns false'. Refute it at one input. -/
def gcNothingWrong : ChangeSpec := { name := "gcNothing", fn := fun _ => fun
  | [d1, d2, d3] => { results := [.lit (.bool false)], args := [d1, d2, d3] }
  | _ => none }
def GcNothingWrongFalsely : Prop := gcNothingRow.holds Try.pinned (OpenSpec.ofChange gcNothingWrong)

/-- 'cuneiformlaw05.GcForce': WHATEVER THE INPUT: true; the input reads as it did. -/
def gcForceSpec : ChangeSpec := { name := "gcForce", fn := fun _ => fun
  | [d1, d2, d3] => { results := [.lit (.bool true)], args := [d1, d2, d3] }
  | _ => none }
def gcForceRow : OpenClaim := { program := "ytoakgogngcmneaa", sum := "44e01ac05dc2531c2f54de4abbac468373335defccc635a2143357cc323192d9", func := "cuneiform/cuneiformlaw05.GcForce", spec := "gcForce", unfollowed := true, recurses := true, apart := false }
def GcForceSaid : Prop := gcForceRow.holds Try.pinned (OpenSpec.ofChange gcForceSpec)

/-- ITS FALSE NEIGHBOUR: 'it returns false'. Refute it at one input. -/
def gcForceWrong : ChangeSpec := { name := "gcForce", fn := fun _ => fun
  | [d1, d2, d3] => { results := [.lit (.bool false)], args := [d1, d2, d3] }
  | _ => none }
def GcForceWrongFalsely : Prop := gcForceRow.holds Try.pinned (OpenSpec.ofChange gcForceWrong)

/-- 'cuneiformlaw05.GcTurns': WHATEVER THE INPUT: true; the input reads as it did. -/
def gcTurnsSpec : ChangeSpec := { name := "gcTurns", fn := fun _ => fun
  | [d1, d2, d3] => { results := [.lit (.bool true)], args := [d1, d2, d3] }
  | _ => none }
def gcTurnsRow : OpenClaim := { program := "ytoakgogngcmneaa", sum := "44e01ac05dc2531c2f54de4abbac468373335defccc635a2143357cc323192d9", func := "cuneiform/cuneiformlaw05.GcTurns", spec := "gcTurns", unfollowed := true, recurses := true, apart := false }
def GcTurnsSaid : Prop := gcTurnsRow.holds Try.pinned (OpenSpec.ofChange gcTurnsSpec)

/-- ITS FALSE NEIGHBOUR: 'it returns false'. Refute it at one input. -/
def gcTurnsWrong : ChangeSpec := { name := "gcTurns", fn := fun _ => fun
  | [d1, d2, d3] => { results := [.lit (.bool false)], args := [d1, d2, d3] }
  | _ => none }
def GcTurnsWrongFalsely : Prop := gcTurnsRow.holds Try.pinned (OpenSpec.ofChange gcTurnsWrong)

/- THE SECOND FORM. 'bulk': how many values and letters a reading holds, each counted each time it is reached (what is shared counts as often as it is met; a slice's spare places count too). A statement '..UptoSaid' is the law's where the arguments, and the package variables that the reading takes, are together of bulk at most 1048576: NARROWER than '..Said'. Prove '..Said' where nothing that the law and all that it calls make is longer than what came in: it says more and counts as full. Else prove '..UptoSaid'. A law counts once. -/
mutual
def uptoBulk {H : Type} : DataW H → Nat
  | .lit (.string bytes) => bytes.length + 1
  | .lit _ => 1
  | .nil => 1
  | .ptr d => uptoBulk d + 1
  | .slice elems spare => uptoBulkAll elems + uptoBulkAll spare + 1
  | .agg parts => uptoBulkAll parts + 1
  | .iface _ d => uptoBulk d + 1
  | .map entries => uptoBulkEntries entries + 1
  | .held _ => 1
def uptoBulkAll {H : Type} : List (DataW H) → Nat
  | [] => 0
  | d :: r => uptoBulk d + uptoBulkAll r
def uptoBulkEntries {H : Type} : List (Lit × DataW H) → Nat
  | [] => 0
  | x :: r => uptoBulkEntry x + uptoBulkEntries r
def uptoBulkEntry {H : Type} : Lit × DataW H → Nat
  | (.string bytes, d) => bytes.length + uptoBulk d + 1
  | (_, d) => uptoBulk d + 1
 end
def uptoSmall : (H : Type) → List (DataW H) → Bool := fun _ ds => decide (uptoBulkAll ds ≤ 1048576)
def OpenSpec.upto (s : _root_.Go.ChangeSpec) : _root_.Go.OpenSpec := { _root_.Go.OpenSpec.ofChange s with cond := some uptoSmall }

/-- 'cuneiformlaw04.PathParses', WHERE WHAT IT READS IS OF BULK AT MOST 1048576: true; the input reads as it did. -/
def pathParsesUptoRow : OpenClaim := { program := "ytoakgogngcmneaa", sum := "44e01ac05dc2531c2f54de4abbac468373335defccc635a2143357cc323192d9", func := "cuneiform/cuneiformlaw04.PathParses", spec := "pathParses", inPlace := ["internal/bytealg.IndexByteString", "internal/bytealg.IndexString"], unfollowed := true, recurses := true, named := ["internal/bytealg.MaxLen"], apart := false, narrowed := true }
def PathParsesUptoSaid : Prop := pathParsesUptoRow.holds Try.pinned (OpenSpec.upto pathParsesSpec)

/-- 'cuneiformlaw04.PathSplits', WHERE WHAT IT READS IS OF BULK AT MOST 1048576: true; the input reads as it did. -/
def pathSplitsUptoRow : OpenClaim := { program := "ytoakgogngcmneaa", sum := "44e01ac05dc2531c2f54de4abbac468373335defccc635a2143357cc323192d9", func := "cuneiform/cuneiformlaw04.PathSplits", spec := "pathSplits", inPlace := ["internal/bytealg.IndexByteString", "internal/bytealg.IndexString", "internal/abi.NoEscape", "internal/bytealg.MakeNoZero"], unfollowed := true, recurses := true, named := ["internal/bytealg.MaxLen"], apart := false, narrowed := true }
def PathSplitsUptoSaid : Prop := pathSplitsUptoRow.holds Try.pinned (OpenSpec.upto pathSplitsSpec)

/-- 'cuneiformlaw04.PathBack', WHERE WHAT IT READS IS OF BULK AT MOST 1048576: true; the input reads as it did. -/
def pathBackUptoRow : OpenClaim := { program := "ytoakgogngcmneaa", sum := "44e01ac05dc2531c2f54de4abbac468373335defccc635a2143357cc323192d9", func := "cuneiform/cuneiformlaw04.PathBack", spec := "pathBack", inPlace := ["internal/bytealg.IndexByteString", "internal/bytealg.IndexString", "internal/abi.NoEscape", "internal/bytealg.MakeNoZero"], unfollowed := true, recurses := true, named := ["internal/bytealg.MaxLen"], apart := false, narrowed := true }
def PathBackUptoSaid : Prop := pathBackUptoRow.holds Try.pinned (OpenSpec.upto pathBackSpec)

/-- 'cuneiformlaw04.PathSlashes', WHERE WHAT IT READS IS OF BULK AT MOST 1048576: true; the input reads as it did. -/
def pathSlashesUptoRow : OpenClaim := { program := "ytoakgogngcmneaa", sum := "44e01ac05dc2531c2f54de4abbac468373335defccc635a2143357cc323192d9", func := "cuneiform/cuneiformlaw04.PathSlashes", spec := "pathSlashes", inPlace := ["internal/bytealg.IndexByteString", "internal/bytealg.IndexString"], unfollowed := true, recurses := true, named := ["internal/bytealg.MaxLen"], apart := false, narrowed := true }
def PathSlashesUptoSaid : Prop := pathSlashesUptoRow.holds Try.pinned (OpenSpec.upto pathSlashesSpec)

/-- 'cuneiformlaw04.PathInside', WHERE WHAT IT READS IS OF BULK AT MOST 1048576: true; the input reads as it did. -/
def pathInsideUptoRow : OpenClaim := { program := "ytoakgogngcmneaa", sum := "44e01ac05dc2531c2f54de4abbac468373335defccc635a2143357cc323192d9", func := "cuneiform/cuneiformlaw04.PathInside", spec := "pathInside", inPlace := ["internal/bytealg.IndexByteString", "internal/bytealg.IndexString"], unfollowed := true, recurses := true, named := ["internal/bytealg.MaxLen"], apart := false, narrowed := true }
def PathInsideUptoSaid : Prop := pathInsideUptoRow.holds Try.pinned (OpenSpec.upto pathInsideSpec)

/-- 'cuneiformlaw05.GcTells', WHERE WHAT IT READS IS OF BULK AT MOST 1048576: true; the input reads as it did. -/
def gcTellsUptoRow : OpenClaim := { program := "ytoakgogngcmneaa", sum := "44e01ac05dc2531c2f54de4abbac468373335defccc635a2143357cc323192d9", func := "cuneiform/cuneiformlaw05.GcTells", spec := "gcTells", unfollowed := true, recurses := true, apart := false, narrowed := true }
def GcTellsUptoSaid : Prop := gcTellsUptoRow.holds Try.pinned (OpenSpec.upto gcTellsSpec)

/-- 'cuneiformlaw05.GcNexts', WHERE WHAT IT READS IS OF BULK AT MOST 1048576: true; the input reads as it did. -/
def gcNextsUptoRow : OpenClaim := { program := "ytoakgogngcmneaa", sum := "44e01ac05dc2531c2f54de4abbac468373335defccc635a2143357cc323192d9", func := "cuneiform/cuneiformlaw05.GcNexts", spec := "gcNexts", unfollowed := true, recurses := true, apart := false, narrowed := true }
def GcNextsUptoSaid : Prop := gcNextsUptoRow.holds Try.pinned (OpenSpec.upto gcNextsSpec)

/-- 'cuneiformlaw05.GcFollows', WHERE WHAT IT READS IS OF BULK AT MOST 1048576: true; the input reads as it did. -/
def gcFollowsUptoRow : OpenClaim := { program := "ytoakgogngcmneaa", sum := "44e01ac05dc2531c2f54de4abbac468373335defccc635a2143357cc323192d9", func := "cuneiform/cuneiformlaw05.GcFollows", spec := "gcFollows", unfollowed := true, recurses := true, apart := false, narrowed := true }
def GcFollowsUptoSaid : Prop := gcFollowsUptoRow.holds Try.pinned (OpenSpec.upto gcFollowsSpec)

/-- 'cuneiformlaw05.GcSpreads', WHERE WHAT IT READS IS OF BULK AT MOST 1048576: true; the input reads as it did. -/
def gcSpreadsUptoRow : OpenClaim := { program := "ytoakgogngcmneaa", sum := "44e01ac05dc2531c2f54de4abbac468373335defccc635a2143357cc323192d9", func := "cuneiform/cuneiformlaw05.GcSpreads", spec := "gcSpreads", unfollowed := true, recurses := true, apart := false, narrowed := true }
def GcSpreadsUptoSaid : Prop := gcSpreadsUptoRow.holds Try.pinned (OpenSpec.upto gcSpreadsSpec)

/-- 'cuneiformlaw05.GcNothing', WHERE WHAT IT READS IS OF BULK AT MOST 1048576: true; the input reads as it did. -/
def gcNothingUptoRow : OpenClaim := { program := "ytoakgogngcmneaa", sum := "44e01ac05dc2531c2f54de4abbac468373335defccc635a2143357cc323192d9", func := "cuneiform/cuneiformlaw05.GcNothing", spec := "gcNothing", unfollowed := true, recurses := true, apart := false, narrowed := true }
def GcNothingUptoSaid : Prop := gcNothingUptoRow.holds Try.pinned (OpenSpec.upto gcNothingSpec)

/-- 'cuneiformlaw05.GcForce', WHERE WHAT IT READS IS OF BULK AT MOST 1048576: true; the input reads as it did. -/
def gcForceUptoRow : OpenClaim := { program := "ytoakgogngcmneaa", sum := "44e01ac05dc2531c2f54de4abbac468373335defccc635a2143357cc323192d9", func := "cuneiform/cuneiformlaw05.GcForce", spec := "gcForce", unfollowed := true, recurses := true, apart := false, narrowed := true }
def GcForceUptoSaid : Prop := gcForceUptoRow.holds Try.pinned (OpenSpec.upto gcForceSpec)

/-- 'cuneiformlaw05.GcTurns', WHERE WHAT IT READS IS OF BULK AT MOST 1048576: true; the input reads as it did. -/
def gcTurnsUptoRow : OpenClaim := { program := "ytoakgogngcmneaa", sum := "44e01ac05dc2531c2f54de4abbac468373335defccc635a2143357cc323192d9", func := "cuneiform/cuneiformlaw05.GcTurns", spec := "gcTurns", unfollowed := true, recurses := true, apart := false, narrowed := true }
def GcTurnsUptoSaid : Prop := gcTurnsUptoRow.holds Try.pinned (OpenSpec.upto gcTurnsSpec)

end Rows
end Go.Proofs.Ytoakgogngcmneaa
