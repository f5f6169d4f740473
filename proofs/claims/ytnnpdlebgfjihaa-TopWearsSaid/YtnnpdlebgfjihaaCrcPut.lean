/-
  What the two calls Put answer (the program's and the document's): eight steps over a remainder and a byte.
-/
import Derived.Test.YtnnpdlebgfjihaaRows
import Derived.WalkKit
import Derived.Lib.Hide
import Derived.Outline
import Derived.Test.YtnnpdlebgfjihaaCrcNum
namespace Go.Proofs.Ytnnpdlebgfjihaa
open Go.RowKit Crcm

theorem ret_u32 {a b : Int} (h : a = b) : Ending.returned (.int .u32 a) = .returned (.int .u32 b) := by rw [h]

/-- a remainder with a byte -/
def pt (r b : Int) : Int := N (it 8 (V r ^^^ V b))
theorem U32_pt (r b : Int) : U32 (pt r b) := U32_N _

set_option maxHeartbeats 400000 in
theorem put_any (r b : Int) (w : World) (hr : U32 r) (hb : U8 b) :
    Calls Try.prog 118 #[.int .u32 r, .int .u8 b] w fun e w' => e = .returned (.int .u32 (pt r b)) ∧ w = w' := by
  go_enter Try.func118, Try.ntmps118
  go_wp2
  go_loop [0, 9] (fun t i => ∃ k : Nat, ∃ n : Int, k ≤ 8 ∧ U32 n ∧ i = .int .i64 k ∧ t = .int .u32 n ∧ Hid (V n = it k (V r ^^^ V b))) (fun _ i => 8 - (intOf i).toNat)
  case atStart =>
    have e : b % 4294967296 = b := by obtain ⟨h0, h1⟩ := hb; omega
    rw [e]
    exact ⟨0, _, by omega, U_xor hr hb.u32, rfl, rfl, Lib.hid (V_xor hr hb.u32)⟩
  case round =>
    obtain ⟨k, n, hk, hn, rfl, rfl, hv⟩ := hrel
    by_cases hlt : k < 8
    · go_wp2
      go_round
      case rel => exact ⟨k + 1, _, by omega, (put_step hn).1, by go_num, rfl, Lib.hid (by rw [(put_step hn).2, hv.out, it_succ])⟩
      case measure => simp [intOf]; omega
    · go_wp2
      go_ret
      have hk8 : k = 8 := by omega
      exact ⟨ret_u32 (by unfold pt; rw [← hk8, ← hv.out, N_V hn]), rfl⟩

end Go.Proofs.Ytnnpdlebgfjihaa
