/-
  The inode of 24 bytes: the walk.
-/
import Derived.Test.YtladgfonkolpmaaInoRead
namespace Go.Proofs.Ytladgfonkolpmaa
open Go.RowKit Crcm Tagm Inom Go.ChangeShapes

/-- a function with a body of its own is entered -/
theorem enters_go {f : FuncId} {fn : Func} {c : Code} (h : Try.prog.funcs[f]? = some fn) (hn : (fn.name == "runtime.NumGoroutine") = false) (hb : fn.body = some c) :
    ∀ args w, (callFunc f args).run Try.prog w = .ok (.enter f args) w := by
  intro args w
  have : fn.name ≠ "runtime.NumGoroutine" := by simpa using hn
  simp [callFunc, h, this, hb, mark]

/-- what is answered of 24 bytes -/
def rdV (l : List Int) : Value := if nat_ l 1 1 = 0 ∧ IR (rd l) then .tuple #[iv (rd l), .int .i64 0] else .tuple #[iv zi, .int .i64 51]
theorem rdV_yes {l : List Int} (h : nat_ l 1 1 = 0) (h2 : IR (rd l)) : rdV l = .tuple #[iv (rd l), .int .i64 0] := if_pos ⟨h, h2⟩
theorem rdV_no {l : List Int} (h : ¬ (nat_ l 1 1 = 0 ∧ IR (rd l))) : rdV l = .tuple #[iv zi, .int .i64 51] := if_neg h

/-- the inode's cells while it is read -/
def csA (l : List Int) (n : Nat) : Array Value := #[.int .i64 (nat_ l 0 1), .int .i64 (nat_ l 2 2), .int .i64 (nat_ l 4 4), .int .i64 (if 0 < n then nat_ l 8 2 else 0), .int .i64 (if 1 < n then nat_ l 10 2 else 0), .int .i64 (if 2 < n then nat_ l 12 2 else 0), .int .i64 (if 3 < n then nat_ l 14 2 else 0), .int .i64 (if 4 < n then nat_ l 16 2 else 0), .int .i64 (if 5 < n then nat_ l 18 2 else 0), .int .i64 0, .int .i64 0]

end Go.Proofs.Ytladgfonkolpmaa
