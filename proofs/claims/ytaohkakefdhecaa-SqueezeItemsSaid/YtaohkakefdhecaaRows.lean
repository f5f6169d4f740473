/-
  No cell of these rows narrows 'for every input' (looked for: loops, veiled, ifaces, maps, wideKeys, modest, calm, conditions, laid).
  DERIVED. THE GIVEN ROWS OF THIS SEAT. 5 by the template 'for every input the law returns true; each argument reads behind the call as it read before'; 0 by the template 'total and deterministic' (their statements: YtaohkakefdhecaaTotals.lean).
  GIVEN WITH THE SEED: the statements are not yours to turn. If you find one false, say at which input.
  Laid BY PROGRAM, IN A SANDBOX (cutbox-rows.mjs): the forced cells as the released guide's own fill.sh prints them over the translation 8bbc42d26918b89a… (all of the seat's roots in one cut). By AI agents, Wed Nov 11 2026. No macro, syntax, notation, axiom, sorry.
-/
import Derived.Test.YtaohkakefdhecaaChecked
import GoSem.Claim
import GoSem.ClaimJoined
import GoSem.ClaimMapViews
import Derived.JoinedTies
import Derived.KernelRfl
namespace Go.Proofs.Ytaohkakefdhecaa
/- THE CELL 'sum', in the pinned program and in every row, IS THE sha256 OF THE DUMP (.gsa) THAT YtaohkakefdhecaaProg.lean LOADS. Nothing in Lean hashes anything: it is a label: what it is worth is what the hold of that sum in a sandbox is worth. -/
noncomputable def Try.pinned : Pinned := { name := "ytaohkakefdhecaa", sum := "8bbc42d26918b89a1860fe92dbe2972b001513ff335b8d9e91947cd427ab411c", checked := Try.checked }
namespace Rows
def none {H : Type} : Left H := { results := [], args := [] }

/-- 'cuneiformlaw19.SqueezeDoes': WHATEVER THE INPUT: true; the input reads as it did. -/
def squeezeDoesSpec : ChangeSpec := { name := "squeezeDoes", fn := fun _ => fun
  | [d] => { results := [.lit (.bool true)], args := [d] }
  | _ => none }
def squeezeDoesRow : OpenClaim := { program := "ytaohkakefdhecaa", sum := "8bbc42d26918b89a1860fe92dbe2972b001513ff335b8d9e91947cd427ab411c", func := "cuneiform/cuneiformlaw19.SqueezeDoes", spec := "squeezeDoes", unfollowed := true, recurses := true, plainKeys := false, apart := false }
def SqueezeDoesSaid : Prop := squeezeDoesRow.holds Try.pinned (OpenSpec.ofChange squeezeDoesSpec)

/-- ITS FALSE NEIGHBOUR: 'it returns false'. Refute it at one input. -/
def squeezeDoesWrong : ChangeSpec := { name := "squeezeDoes", fn := fun _ => fun
  | [d] => { results := [.lit (.bool false)], args := [d] }
  | _ => none }
def SqueezeDoesWrongFalsely : Prop := squeezeDoesRow.holds Try.pinned (OpenSpec.ofChange squeezeDoesWrong)

/-- 'cuneiformlaw19.SqueezeOpens': WHATEVER THE INPUT: true; the input reads as it did. -/
def squeezeOpensSpec : ChangeSpec := { name := "squeezeOpens", fn := fun _ => fun
  | [d1, d2] => { results := [.lit (.bool true)], args := [d1, d2] }
  | _ => none }
def squeezeOpensRow : OpenClaim := { program := "ytaohkakefdhecaa", sum := "8bbc42d26918b89a1860fe92dbe2972b001513ff335b8d9e91947cd427ab411c", func := "cuneiform/cuneiformlaw19.SqueezeOpens", spec := "squeezeOpens", unfollowed := true, recurses := true, plainKeys := false, apart := false }
def SqueezeOpensSaid : Prop := squeezeOpensRow.holds Try.pinned (OpenSpec.ofChange squeezeOpensSpec)

/-- ITS FALSE NEIGHBOUR: 'it returns false'. Refute it at one input. -/
def squeezeOpensWrong : ChangeSpec := { name := "squeezeOpens", fn := fun _ => fun
  | [d1, d2] => { results := [.lit (.bool false)], args := [d1, d2] }
  | _ => none }
def SqueezeOpensWrongFalsely : Prop := squeezeOpensRow.holds Try.pinned (OpenSpec.ofChange squeezeOpensWrong)

/-- 'cuneiformlaw19.SqueezeItems': WHATEVER THE INPUT: true; the input reads as it did. -/
def squeezeItemsSpec : ChangeSpec := { name := "squeezeItems", fn := fun _ => fun
  | [d1, d2] => { results := [.lit (.bool true)], args := [d1, d2] }
  | _ => none }
def squeezeItemsRow : OpenClaim := { program := "ytaohkakefdhecaa", sum := "8bbc42d26918b89a1860fe92dbe2972b001513ff335b8d9e91947cd427ab411c", func := "cuneiform/cuneiformlaw19.SqueezeItems", spec := "squeezeItems", unfollowed := true, recurses := true, plainKeys := false, apart := false }
def SqueezeItemsSaid : Prop := squeezeItemsRow.holds Try.pinned (OpenSpec.ofChange squeezeItemsSpec)

/-- ITS FALSE NEIGHBOUR: 'it returns false'. Refute it at one input. -/
def squeezeItemsWrong : ChangeSpec := { name := "squeezeItems", fn := fun _ => fun
  | [d1, d2] => { results := [.lit (.bool false)], args := [d1, d2] }
  | _ => none }
def SqueezeItemsWrongFalsely : Prop := squeezeItemsRow.holds Try.pinned (OpenSpec.ofChange squeezeItemsWrong)

/-- 'cuneiformlaw19.SqueezeBack': WHATEVER THE INPUT: true; the input reads as it did. -/
def squeezeBackSpec : ChangeSpec := { name := "squeezeBack", fn := fun _ => fun
  | [d] => { results := [.lit (.bool true)], args := [d] }
  | _ => none }
def squeezeBackRow : OpenClaim := { program := "ytaohkakefdhecaa", sum := "8bbc42d26918b89a1860fe92dbe2972b001513ff335b8d9e91947cd427ab411c", func := "cuneiform/cuneiformlaw19.SqueezeBack", spec := "squeezeBack", unfollowed := true, recurses := true, plainKeys := false, apart := false }
def SqueezeBackSaid : Prop := squeezeBackRow.holds Try.pinned (OpenSpec.ofChange squeezeBackSpec)

/-- ITS FALSE NEIGHBOUR: 'it returns false'. Refute it at one input. -/
def squeezeBackWrong : ChangeSpec := { name := "squeezeBack", fn := fun _ => fun
  | [d] => { results := [.lit (.bool false)], args := [d] }
  | _ => none }
def SqueezeBackWrongFalsely : Prop := squeezeBackRow.holds Try.pinned (OpenSpec.ofChange squeezeBackWrong)

/-- 'cuneiformlaw19.SqueezeBegins': WHATEVER THE INPUT: true; the input reads as it did. -/
def squeezeBeginsSpec : ChangeSpec := { name := "squeezeBegins", fn := fun _ => fun
  | [d1, d2] => { results := [.lit (.bool true)], args := [d1, d2] }
  | _ => none }
def squeezeBeginsRow : OpenClaim := { program := "ytaohkakefdhecaa", sum := "8bbc42d26918b89a1860fe92dbe2972b001513ff335b8d9e91947cd427ab411c", func := "cuneiform/cuneiformlaw19.SqueezeBegins", spec := "squeezeBegins", unfollowed := true, recurses := true, plainKeys := false, apart := false }
def SqueezeBeginsSaid : Prop := squeezeBeginsRow.holds Try.pinned (OpenSpec.ofChange squeezeBeginsSpec)

/-- ITS FALSE NEIGHBOUR: 'it returns false'. Refute it at one input. -/
def squeezeBeginsWrong : ChangeSpec := { name := "squeezeBegins", fn := fun _ => fun
  | [d1, d2] => { results := [.lit (.bool false)], args := [d1, d2] }
  | _ => none }
def SqueezeBeginsWrongFalsely : Prop := squeezeBeginsRow.holds Try.pinned (OpenSpec.ofChange squeezeBeginsWrong)

/- THE SECOND FORM. 'bulk': how many values and letters a reading holds, each counted each time it is reached (what is shared counts as often as it is met; a slice's spare places count too). A statement '..UptoSaid' is the law's where the arguments, and the package variables that the reading takes, are together of bulk at most 1048576: NARROWER than '..Said'. Prove '..Said' where nothing that the law and all that it calls make is longer than what came in: it says more and counts as full. Else prove '..UptoSaid'. A law counts once. -/
mutual
def uptoBulk {H : Type} : DataW H → Nat
  | .lit (.string bytes) => bytes.length + 1
  | .lit _ => 1
  | .nil => 1
  | .ptr d => uptoBulk d + 1
  | .slice elems spare => uptoBulkAll elems + uptoBulkAll spare + 1
  | .agg parts => uptoBulkAll parts + 1
  | .iface _ d => uptoBulk d + 1
  | .map entries => uptoBulkEntries entries + 1
  | .held _ => 1
def uptoBulkAll {H : Type} : List (DataW H) → Nat
  | [] => 0
  | d :: r => uptoBulk d + uptoBulkAll r
def uptoBulkEntries {H : Type} : List (Lit × DataW H) → Nat
  | [] => 0
  | x :: r => uptoBulkEntry x + uptoBulkEntries r
def uptoBulkEntry {H : Type} : Lit × DataW H → Nat
  | (.string bytes, d) => bytes.length + uptoBulk d + 1
  | (_, d) => uptoBulk d + 1
 end
def uptoSmall : (H : Type) → List (DataW H) → Bool := fun _ ds => decide (uptoBulkAll ds ≤ 1048576)
def OpenSpec.upto (s : _root_.Go.ChangeSpec) : _root_.Go.OpenSpec := { _root_.Go.OpenSpec.ofChange s with cond := some uptoSmall }

/-- 'cuneiformlaw19.SqueezeDoes', WHERE WHAT IT READS IS OF BULK AT MOST 1048576: true; the input reads as it did. -/
def squeezeDoesUptoRow : OpenClaim := { program := "ytaohkakefdhecaa", sum := "8bbc42d26918b89a1860fe92dbe2972b001513ff335b8d9e91947cd427ab411c", func := "cuneiform/cuneiformlaw19.SqueezeDoes", spec := "squeezeDoes", unfollowed := true, recurses := true, plainKeys := false, apart := false, narrowed := true }
def SqueezeDoesUptoSaid : Prop := squeezeDoesUptoRow.holds Try.pinned (OpenSpec.upto squeezeDoesSpec)

/-- 'cuneiformlaw19.SqueezeOpens', WHERE WHAT IT READS IS OF BULK AT MOST 1048576: true; the input reads as it did. -/
def squeezeOpensUptoRow : OpenClaim := { program := "ytaohkakefdhecaa", sum := "8bbc42d26918b89a1860fe92dbe2972b001513ff335b8d9e91947cd427ab411c", func := "cuneiform/cuneiformlaw19.SqueezeOpens", spec := "squeezeOpens", unfollowed := true, recurses := true, plainKeys := false, apart := false, narrowed := true }
def SqueezeOpensUptoSaid : Prop := squeezeOpensUptoRow.holds Try.pinned (OpenSpec.upto squeezeOpensSpec)

/-- 'cuneiformlaw19.SqueezeItems', WHERE WHAT IT READS IS OF BULK AT MOST 1048576: true; the input reads as it did. -/
def squeezeItemsUptoRow : OpenClaim := { program := "ytaohkakefdhecaa", sum := "8bbc42d26918b89a1860fe92dbe2972b001513ff335b8d9e91947cd427ab411c", func := "cuneiform/cuneiformlaw19.SqueezeItems", spec := "squeezeItems", unfollowed := true, recurses := true, plainKeys := false, apart := false, narrowed := true }
def SqueezeItemsUptoSaid : Prop := squeezeItemsUptoRow.holds Try.pinned (OpenSpec.upto squeezeItemsSpec)

/-- 'cuneiformlaw19.SqueezeBack', WHERE WHAT IT READS IS OF BULK AT MOST 1048576: true; the input reads as it did. -/
def squeezeBackUptoRow : OpenClaim := { program := "ytaohkakefdhecaa", sum := "8bbc42d26918b89a1860fe92dbe2972b001513ff335b8d9e91947cd427ab411c", func := "cuneiform/cuneiformlaw19.SqueezeBack", spec := "squeezeBack", unfollowed := true, recurses := true, plainKeys := false, apart := false, narrowed := true }
def SqueezeBackUptoSaid : Prop := squeezeBackUptoRow.holds Try.pinned (OpenSpec.upto squeezeBackSpec)

/-- 'cuneiformlaw19.SqueezeBegins', WHERE WHAT IT READS IS OF BULK AT MOST 1048576: true; the input reads as it did. -/
def squeezeBeginsUptoRow : OpenClaim := { program := "ytaohkakefdhecaa", sum := "8bbc42d26918b89a1860fe92dbe2972b001513ff335b8d9e91947cd427ab411c", func := "cuneiform/cuneiformlaw19.SqueezeBegins", spec := "squeezeBegins", unfollowed := true, recurses := true, plainKeys := false, apart := false, narrowed := true }
def SqueezeBeginsUptoSaid : Prop := squeezeBeginsUptoRow.holds Try.pinned (OpenSpec.upto squeezeBeginsSpec)

end Rows
end Go.Proofs.Ytaohkakefdhecaa
