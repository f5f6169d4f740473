/-
  A raw number as a place: the document's call Among. Nothing of one statement alone stands here.
-/
import Derived.Test.YthngpmiclbbpnaaGreatBytes
namespace Go.Proofs.YthngpmiclbbpnaaGreat
open Go.RowKit Crcm Go.ChangeShapes

/-- a raw number as one from 0 to n-1 -/
def am (k n : Int) : Int := if n < 1 then 0 else k % n
theorem am_lo (k n : Int) : 0 ≤ am k n := by unfold am; split <;> first | omega | exact Int.emod_nonneg _ (by omega)
theorem am_hi (k n : Int) (h : 1 ≤ n) : am k n < n := by unfold am; rw [if_neg (by omega)]; exact Int.emod_lt_of_pos _ (by omega)
theorem am_tmod_pos {k n : Int} (hn : 1 ≤ n) (h : 0 ≤ k.tmod n) : k.tmod n = am k n := by
  unfold am
  rw [if_neg (by omega)]
  have h1 := Int.tmod_add_mul_tdiv k n
  have h2 := Int.tmod_lt_of_pos k (by omega : 0 < n)
  have : (k.tmod n + n * k.tdiv n) % n = k.tmod n % n := by rw [Int.add_mul_emod_self_left]
  rw [h1] at this
  rw [this, Int.emod_eq_of_lt h h2]
theorem am_tmod_neg {k n : Int} (hn : 1 ≤ n) (h : k.tmod n < 0) : k.tmod n + n = am k n := by
  unfold am
  rw [if_neg (by omega)]
  have h1 := Int.tmod_add_mul_tdiv k n
  have h2 : -n < k.tmod n := by
    have := Int.lt_tmod_of_pos k (by omega : 0 < n)
    omega
  have : (k.tmod n + n * k.tdiv n) % n = (k.tmod n + n) % n := by rw [Int.add_mul_emod_self_left, Int.add_emod_right]
  rw [h1] at this
  rw [this, Int.emod_eq_of_lt (by omega) (by omega)]

set_option maxHeartbeats 400000 in
theorem among_any (k n : Int) (w : World) (_hk0 : -9223372036854775808 ≤ k) (_hk1 : k ≤ 9223372036854775807) (hn1 : n ≤ 9223372036854775807) :
    Calls Tryz.prog 8 #[.int .i64 k, .int .i64 n] w fun e w' => e = .returned (.int .i64 (am k n)) ∧ w = w' := by
  by_cases hn : n < 1
  · go_enter Tryz.func8, Tryz.ntmps8
    go_wp2
    go_ret
    exact ⟨ret_i64 (by unfold am; rw [if_pos hn]), rfl⟩
  · go_enter Tryz.func8, Tryz.ntmps8
    go_wp2
    · go_ret
      have ht : k.tmod n < 0 := by assumption
      have e := am_tmod_neg (by omega) ht
      have e1 := am_lo k n
      have e2 := am_hi k n (by omega)
      exact ⟨ret_i64 (by rw [e, IntWalk.wrap64_in _ ⟨by omega, by omega⟩]), rfl⟩
    · go_ret
      have ht : 0 ≤ k.tmod n := by assumption
      exact ⟨ret_i64 (am_tmod_pos (by omega) ht), rfl⟩

/-- the call's answer as a place among n -/
theorem among_int (k : Int) (n : Nat) (N : Int) (hN : N = n) (hk0 : -9223372036854775808 ≤ k) (hk1 : k ≤ 9223372036854775807) (hn0 : 1 ≤ n) (hn1 : n ≤ 9223372036854775807) :
    ∃ j : Nat, j < n ∧ ∀ w, Calls Tryz.prog 8 #[.int .i64 k, .int .i64 N] w fun e w' => e = .returned (.int .i64 (j : Int)) ∧ w = w' := by
  subst hN
  have h0 := am_lo k n
  have h1 := am_hi k n (by omega)
  refine ⟨(am k n).toNat, by omega, fun w => ?_⟩
  have := among_any k n w hk0 hk1 (by omega)
  rw [Int.toNat_of_nonneg h0]
  exact this

end Go.Proofs.YthngpmiclbbpnaaGreat
