/-
  The walk of the statement that a page is whole, torn or erased, from what comes in.
-/
import Derived.Test.YtofdmfkncgaelaaTornW
namespace Go.Proofs.Ytofdmfkncgaelaa
open Go.RowKit Crcm Tagm Go.ChangeShapes

theorem topTorn_walk (a0 : Option Addr) (len0 cap0 : Nat) (x : Int) (a2 : Option Addr) (len2 cap2 : Nat) (z2 : List Int) (w : World) (h0 : RowLB w a0 len0 cap0) (wx : (Lit.int .u8 x).wf = true) (h2 : Row8 w a2 len2 cap2 z2) :
    Calls Try.prog 5 #[.slice a0 len0 cap0, .int .u8 x, .slice a2 len2 cap2] w fun e w' => e = .returned (.bool true) ∧ Below w.heap.size w w' := by
  obtain ⟨ls, hll, hlc, hcm, hrl⟩ := h0.rl
  have hx := U8_wf wx
  have hm2 : cap2 ≤ maxLen := by
    rcases h2 with ⟨-, -, rfl, -⟩ | ⟨_, -, _, hm, -⟩
    · exact Nat.zero_le _
    · exact hm
  obtain ⟨l2, hl2, hc2, hr2, -⟩ := h2.rw
  have hx' := hx
  unfold U8 at hx'
  obtain ⟨n, rfl⟩ : ∃ n : Nat, x = n := ⟨x.toNat, by omega⟩
  exact topTorn_main a0 len0 cap0 ls n (n % 8) a2 len2 cap2 l2 w hrl hll (by omega) hx (by simp [Int.tmod]) (by omega) hr2 hl2 hc2 hm2

end Go.Proofs.Ytofdmfkncgaelaa
