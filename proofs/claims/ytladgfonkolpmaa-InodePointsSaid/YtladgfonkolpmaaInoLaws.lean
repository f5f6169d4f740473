/-
  How many bytes the statements on inode look at; the fixed calls in a later world.
-/
import Derived.Test.YtladgfonkolpmaaInoPoint
import Derived.Test.YtladgfonkolpmaaLater
namespace Go.Proofs.Ytladgfonkolpmaa
open Go.RowKit Crcm Tagm Inom Go.ChangeShapes

theorem ilong_any (a : Option Addr) (len cap : Nat) (w : World) :
    Calls Try.prog 10 #[.slice a len cap] w fun e w' => e = .returned (.bool (decide ((1500 : Int) < len))) ∧ w = w' := by
  go_enter Try.func10, Try.ntmps10
  go_wp2
  go_ret
  exact ⟨rfl, rfl⟩
theorem ilong_yes (a : Option Addr) (len cap : Nat) (w : World) (h : 1500 < len) :
    Calls Try.prog 10 #[.slice a len cap] w fun e w' => e = .returned (.bool true) ∧ w = w' := by
  have := ilong_any a len cap w
  rwa [decide_eq_true (by omega : (1500 : Int) < len)] at this
theorem ilong_no (a : Option Addr) (len cap : Nat) (w : World) (h : len ≤ 1500) :
    Calls Try.prog 10 #[.slice a len cap] w fun e w' => e = .returned (.bool false) ∧ w = w' := by
  have := ilong_any a len cap w
  rwa [decide_eq_false (by omega : ¬ (1500 : Int) < len)] at this
theorem iknown_later {w : World} (n : Later w) : Calls Try.prog 11 #[] n.to fun e w'' => e = .returned (.bool true) ∧ ∃ m : Later w, w'' = m.to := later_below (iknown_any _)

end Go.Proofs.Ytladgfonkolpmaa
