/-
  The law HistBack as the frame hands its arguments.
-/
import Derived.Test.YtcpoicplhkkjnaaGreatHistBk
namespace Go.Proofs.YtcpoicplhkkjnaaGreat
open Go.RowKit Crcm Tagm Go.ChangeShapes

theorem histBack_walk (a0 : Option Addr) (n0 c0 : Nat) (z0 : List Ho) (a1 : Option Addr) (len1 cap1 : Nat) (z1 : List Int) (w : World) (w0 : HR w a0 z0) (u0 : z0.length = n0) (m0 : n0 ≤ maxLen) (t0 : ∀ y ∈ z0, SzH y) (w1 : Row8 w a1 len1 cap1 z1) :
    Calls Tryz.prog 5 #[.slice a0 n0 c0, .slice a1 len1 cap1] w fun e w' => e = .returned (.bool true) ∧ Below w.heap.size w w' := by
  obtain ⟨l, hl, hcap, hr, -⟩ := w1.rw
  have hm : cap1 ≤ maxLen := by
    rcases w1 with ⟨-, -, rfl, -⟩ | ⟨x, -, h1, h2, -⟩
    · exact Nat.zero_le _
    · exact h2
  exact histBack_core a0 n0 c0 z0 a1 len1 cap1 l w w0 u0 m0 t0 hr hl hcap hm

end Go.Proofs.YtcpoicplhkkjnaaGreat
