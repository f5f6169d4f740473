/-
  No cell of these rows narrows 'for every input' (looked for: loops, veiled, ifaces, maps, wideKeys, modest, calm, conditions, laid).
  DERIVED. THE GIVEN ROWS OF THIS SEAT. 6 by the template 'for every input the law returns true; each argument reads behind the call as it read before'; 0 by the template 'total and deterministic' (their statements: YtdcpbbfaakddaaaTotals.lean).
  GIVEN WITH THE SEED: the statements are not yours to turn. If you find one false, say at which input.
  Laid BY PROGRAM, IN A SANDBOX (cutbox-rows.mjs): the forced cells as the released guide's own fill.sh prints them over the translation 597b20c8a9fe249e… (all of the seat's roots in one cut). By AI agents, Wed Nov 11 2026. No macro, syntax, notation, axiom, sorry.
-/
import Derived.Test.YtdcpbbfaakddaaaChecked
import GoSem.Claim
import GoSem.ClaimJoined
import GoSem.ClaimMapViews
import Derived.JoinedTies
import Derived.KernelRfl
namespace Go.Proofs.Ytdcpbbfaakddaaa
/- THE CELL 'sum', in the pinned program and in every row, IS THE sha256 OF THE DUMP (.gsa) THAT YtdcpbbfaakddaaaProg.lean LOADS. Nothing in Lean hashes anything: it is a label: what it is worth is what the hold of that sum in a sandbox is worth. -/
noncomputable def Try.pinned : Pinned := { name := "ytdcpbbfaakddaaa", sum := "597b20c8a9fe249ea84a34b884aea58723db9275b0624013565f5b3187159dbc", checked := Try.checked }
namespace Rows
def none {H : Type} : Left H := { results := [], args := [] }

/-- 'cuneiformlaw17.EccCodes': WHATEVER THE INPUT: true; the input reads as it did. -/
def eccCodesSpec : ChangeSpec := { name := "eccCodes", fn := fun _ => fun
  | [d] => { results := [.lit (.bool true)], args := [d] }
  | _ => none }
def eccCodesRow : OpenClaim := { program := "ytdcpbbfaakddaaa", sum := "597b20c8a9fe249ea84a34b884aea58723db9275b0624013565f5b3187159dbc", func := "cuneiform/cuneiformlaw17.EccCodes", spec := "eccCodes", apart := false }
def EccCodesSaid : Prop := eccCodesRow.holds Try.pinned (OpenSpec.ofChange eccCodesSpec)

/-- ITS FALSE NEIGHBOUR: 'it returns false'. Refute it at one input. -/
def eccCodesWrong : ChangeSpec := { name := "eccCodes", fn := fun _ => fun
  | [d] => { results := [.lit (.bool false)], args := [d] }
  | _ => none }
def EccCodesWrongFalsely : Prop := eccCodesRow.holds Try.pinned (OpenSpec.ofChange eccCodesWrong)

/-- 'cuneiformlaw17.EccMends': WHATEVER THE INPUT: true; the input reads as it did. -/
def eccMendsSpec : ChangeSpec := { name := "eccMends", fn := fun _ => fun
  | [d1, d2] => { results := [.lit (.bool true)], args := [d1, d2] }
  | _ => none }
def eccMendsRow : OpenClaim := { program := "ytdcpbbfaakddaaa", sum := "597b20c8a9fe249ea84a34b884aea58723db9275b0624013565f5b3187159dbc", func := "cuneiform/cuneiformlaw17.EccMends", spec := "eccMends", apart := false }
def EccMendsSaid : Prop := eccMendsRow.holds Try.pinned (OpenSpec.ofChange eccMendsSpec)

/-- ITS FALSE NEIGHBOUR: 'it returns false'. Refute it at one input. -/
def eccMendsWrong : ChangeSpec := { name := "eccMends", fn := fun _ => fun
  | [d1, d2] => { results := [.lit (.bool false)], args := [d1, d2] }
  | _ => none }
def EccMendsWrongFalsely : Prop := eccMendsRow.holds Try.pinned (OpenSpec.ofChange eccMendsWrong)

/-- 'cuneiformlaw17.EccRows': WHATEVER THE INPUT: true; the input reads as it did. -/
def eccRowsSpec : ChangeSpec := { name := "eccRows", fn := fun _ => fun
  | [d1, d2, d3] => { results := [.lit (.bool true)], args := [d1, d2, d3] }
  | _ => none }
def eccRowsRow : OpenClaim := { program := "ytdcpbbfaakddaaa", sum := "597b20c8a9fe249ea84a34b884aea58723db9275b0624013565f5b3187159dbc", func := "cuneiform/cuneiformlaw17.EccRows", spec := "eccRows", unfollowed := true, recurses := true, apart := false }
def EccRowsSaid : Prop := eccRowsRow.holds Try.pinned (OpenSpec.ofChange eccRowsSpec)

/-- ITS FALSE NEIGHBOUR: 'it returns false'. Refute it at one input. -/
def eccRowsWrong : ChangeSpec := { name := "eccRows", fn := fun _ => fun
  | [d1, d2, d3] => { results := [.lit (.bool false)], args := [d1, d2, d3] }
  | _ => none }
def EccRowsWrongFalsely : Prop := eccRowsRow.holds Try.pinned (OpenSpec.ofChange eccRowsWrong)

/-- 'cuneiformlaw17.EccWhole': WHATEVER THE INPUT: true; the input reads as it did. -/
def eccWholeSpec : ChangeSpec := { name := "eccWhole", fn := fun _ => fun
  | [d] => { results := [.lit (.bool true)], args := [d] }
  | _ => none }
def eccWholeRow : OpenClaim := { program := "ytdcpbbfaakddaaa", sum := "597b20c8a9fe249ea84a34b884aea58723db9275b0624013565f5b3187159dbc", func := "cuneiform/cuneiformlaw17.EccWhole", spec := "eccWhole", apart := false }
def EccWholeSaid : Prop := eccWholeRow.holds Try.pinned (OpenSpec.ofChange eccWholeSpec)

/-- ITS FALSE NEIGHBOUR: 'it returns false'. Refute it at one input. -/
def eccWholeWrong : ChangeSpec := { name := "eccWhole", fn := fun _ => fun
  | [d] => { results := [.lit (.bool false)], args := [d] }
  | _ => none }
def EccWholeWrongFalsely : Prop := eccWholeRow.holds Try.pinned (OpenSpec.ofChange eccWholeWrong)

/-- 'cuneiformlaw17.EccOne': WHATEVER THE INPUT: true; the input reads as it did. -/
def eccOneSpec : ChangeSpec := { name := "eccOne", fn := fun _ => fun
  | [d1, d2] => { results := [.lit (.bool true)], args := [d1, d2] }
  | _ => none }
def eccOneRow : OpenClaim := { program := "ytdcpbbfaakddaaa", sum := "597b20c8a9fe249ea84a34b884aea58723db9275b0624013565f5b3187159dbc", func := "cuneiform/cuneiformlaw17.EccOne", spec := "eccOne", apart := false }
def EccOneSaid : Prop := eccOneRow.holds Try.pinned (OpenSpec.ofChange eccOneSpec)

/-- ITS FALSE NEIGHBOUR: 'it returns false'. Refute it at one input. -/
def eccOneWrong : ChangeSpec := { name := "eccOne", fn := fun _ => fun
  | [d1, d2] => { results := [.lit (.bool false)], args := [d1, d2] }
  | _ => none }
def EccOneWrongFalsely : Prop := eccOneRow.holds Try.pinned (OpenSpec.ofChange eccOneWrong)

/-- 'cuneiformlaw17.EccTwo': WHATEVER THE INPUT: true; the input reads as it did. -/
def eccTwoSpec : ChangeSpec := { name := "eccTwo", fn := fun _ => fun
  | [d1, d2, d3] => { results := [.lit (.bool true)], args := [d1, d2, d3] }
  | _ => none }
def eccTwoRow : OpenClaim := { program := "ytdcpbbfaakddaaa", sum := "597b20c8a9fe249ea84a34b884aea58723db9275b0624013565f5b3187159dbc", func := "cuneiform/cuneiformlaw17.EccTwo", spec := "eccTwo", apart := false }
def EccTwoSaid : Prop := eccTwoRow.holds Try.pinned (OpenSpec.ofChange eccTwoSpec)

/-- ITS FALSE NEIGHBOUR: 'it returns false'. Refute it at one input. -/
def eccTwoWrong : ChangeSpec := { name := "eccTwo", fn := fun _ => fun
  | [d1, d2, d3] => { results := [.lit (.bool false)], args := [d1, d2, d3] }
  | _ => none }
def EccTwoWrongFalsely : Prop := eccTwoRow.holds Try.pinned (OpenSpec.ofChange eccTwoWrong)

/- THE SECOND FORM. 'bulk': how many values and letters a reading holds, each counted each time it is reached (what is shared counts as often as it is met; a slice's spare places count too). A statement '..UptoSaid' is the law's where the arguments, and the package variables that the reading takes, are together of bulk at most 1048576: NARROWER than '..Said'. Prove '..Said' where nothing that the law and all that it calls make is longer than what came in: it says more and counts as full. Else prove '..UptoSaid'. A law counts once. -/
mutual
def uptoBulk {H : Type} : DataW H → Nat
  | .lit (.string bytes) => bytes.length + 1
  | .lit _ => 1
  | .nil => 1
  | .ptr d => uptoBulk d + 1
  | .slice elems spare => uptoBulkAll elems + uptoBulkAll spare + 1
  | .agg parts => uptoBulkAll parts + 1
  | .iface _ d => uptoBulk d + 1
  | .map entries => uptoBulkEntries entries + 1
  | .held _ => 1
def uptoBulkAll {H : Type} : List (DataW H) → Nat
  | [] => 0
  | d :: r => uptoBulk d + uptoBulkAll r
def uptoBulkEntries {H : Type} : List (Lit × DataW H) → Nat
  | [] => 0
  | x :: r => uptoBulkEntry x + uptoBulkEntries r
def uptoBulkEntry {H : Type} : Lit × DataW H → Nat
  | (.string bytes, d) => bytes.length + uptoBulk d + 1
  | (_, d) => uptoBulk d + 1
 end
def uptoSmall : (H : Type) → List (DataW H) → Bool := fun _ ds => decide (uptoBulkAll ds ≤ 1048576)
def OpenSpec.upto (s : _root_.Go.ChangeSpec) : _root_.Go.OpenSpec := { _root_.Go.OpenSpec.ofChange s with cond := some uptoSmall }

/-- 'cuneiformlaw17.EccCodes', WHERE WHAT IT READS IS OF BULK AT MOST 1048576: true; the input reads as it did. -/
def eccCodesUptoRow : OpenClaim := { program := "ytdcpbbfaakddaaa", sum := "597b20c8a9fe249ea84a34b884aea58723db9275b0624013565f5b3187159dbc", func := "cuneiform/cuneiformlaw17.EccCodes", spec := "eccCodes", apart := false, narrowed := true }
def EccCodesUptoSaid : Prop := eccCodesUptoRow.holds Try.pinned (OpenSpec.upto eccCodesSpec)

/-- 'cuneiformlaw17.EccMends', WHERE WHAT IT READS IS OF BULK AT MOST 1048576: true; the input reads as it did. -/
def eccMendsUptoRow : OpenClaim := { program := "ytdcpbbfaakddaaa", sum := "597b20c8a9fe249ea84a34b884aea58723db9275b0624013565f5b3187159dbc", func := "cuneiform/cuneiformlaw17.EccMends", spec := "eccMends", apart := false, narrowed := true }
def EccMendsUptoSaid : Prop := eccMendsUptoRow.holds Try.pinned (OpenSpec.upto eccMendsSpec)

/-- 'cuneiformlaw17.EccRows', WHERE WHAT IT READS IS OF BULK AT MOST 1048576: true; the input reads as it did. -/
def eccRowsUptoRow : OpenClaim := { program := "ytdcpbbfaakddaaa", sum := "597b20c8a9fe249ea84a34b884aea58723db9275b0624013565f5b3187159dbc", func := "cuneiform/cuneiformlaw17.EccRows", spec := "eccRows", unfollowed := true, recurses := true, apart := false, narrowed := true }
def EccRowsUptoSaid : Prop := eccRowsUptoRow.holds Try.pinned (OpenSpec.upto eccRowsSpec)

/-- 'cuneiformlaw17.EccWhole', WHERE WHAT IT READS IS OF BULK AT MOST 1048576: true; the input reads as it did. -/
def eccWholeUptoRow : OpenClaim := { program := "ytdcpbbfaakddaaa", sum := "597b20c8a9fe249ea84a34b884aea58723db9275b0624013565f5b3187159dbc", func := "cuneiform/cuneiformlaw17.EccWhole", spec := "eccWhole", apart := false, narrowed := true }
def EccWholeUptoSaid : Prop := eccWholeUptoRow.holds Try.pinned (OpenSpec.upto eccWholeSpec)

/-- 'cuneiformlaw17.EccOne', WHERE WHAT IT READS IS OF BULK AT MOST 1048576: true; the input reads as it did. -/
def eccOneUptoRow : OpenClaim := { program := "ytdcpbbfaakddaaa", sum := "597b20c8a9fe249ea84a34b884aea58723db9275b0624013565f5b3187159dbc", func := "cuneiform/cuneiformlaw17.EccOne", spec := "eccOne", apart := false, narrowed := true }
def EccOneUptoSaid : Prop := eccOneUptoRow.holds Try.pinned (OpenSpec.upto eccOneSpec)

/-- 'cuneiformlaw17.EccTwo', WHERE WHAT IT READS IS OF BULK AT MOST 1048576: true; the input reads as it did. -/
def eccTwoUptoRow : OpenClaim := { program := "ytdcpbbfaakddaaa", sum := "597b20c8a9fe249ea84a34b884aea58723db9275b0624013565f5b3187159dbc", func := "cuneiform/cuneiformlaw17.EccTwo", spec := "eccTwo", apart := false, narrowed := true }
def EccTwoUptoSaid : Prop := eccTwoUptoRow.holds Try.pinned (OpenSpec.upto eccTwoSpec)

end Rows
end Go.Proofs.Ytdcpbbfaakddaaa
