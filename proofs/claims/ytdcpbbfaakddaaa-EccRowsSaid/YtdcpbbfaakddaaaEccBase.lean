/-
  What the small calls of ecc and of the library below it answer: how many digits are 1, how long a number is, whether bytes are a block.
-/
import Derived.Test.YtdcpbbfaakddaaaTagNum
import Derived.Test.YtdcpbbfaakddaaaEccOnes
import Derived.Test.YtdcpbbfaakddaaaEccBits
import Derived.Lib.Tables
import Derived.Outline
import Derived.BigQuiet
import Derived.Laws.BitsAllLaws
import Derived.Deep.QuietTactic
import Derived.Deep.Cut
import Derived.Below
namespace Go.Proofs.Ytdcpbbfaakddaaa
open Go.RowKit Crcm Eccm

theorem eret_i64 {a b : Int} (h : a = b) : Ending.returned (.int .i64 a) = .returned (.int .i64 b) := by rw [h]

set_option maxRecDepth 100000 in
set_option maxHeartbeats 1000000 in
theorem ones32_any (x : Int) (w : World) (hx : U32 x) :
    Calls Try.prog 38 #[.int .u32 x] w fun e w' => e = .returned (.int .i64 (on x.toNat 32 : Nat)) ∧ Below w.heap.size w w' := by
  obtain ⟨h0, h1⟩ := hx
  have a32 : ∀ y : Int, 0 ≤ y → y < 4294967296 → bits .and .u32 y 255 = y % 256 := fun y h0 h1 => by
    rw [u32_and _ _ h0 h1 (by decide) (by decide)]
    have : y.toNat &&& (255 : Int).toNat = y.toNat % 256 := Nat.and_two_pow_sub_one_eq_mod y.toNat 8
    rw [this]; omega
  have hm : ∀ i : Int, ∀ k : IntKind, ∀ w : World, 0 ≤ i → i ≤ 255 → (Instr.index 9 (.string Lib.pop8tab) (.int k i)).run Try.prog w = .ok (.int .u8 (Lib.pop8 i)) w := fun i k w h0 h1 => Lib.run_index_pop8tab w 9 k i Try.underlying9 h0 h1
  have e4 : ∀ w : World, (Instr.index 9 (.string Lib.pop8tab) (.int .u32 (x / 16777216))).run Try.prog w = .ok (.int .u8 (Lib.pop8 (x / 16777216))) w := fun w => hm _ _ w (by omega) (by omega)
  have e3 : ∀ w : World, (Instr.index 9 (.string Lib.pop8tab) (.int .u32 (bits .and .u32 (x / 65536) 255))).run Try.prog w = .ok (.int .u8 (Lib.pop8 (x / 65536 % 256))) w := fun w => by rw [a32 _ (by omega) (by omega)]; exact hm _ _ w (by omega) (by omega)
  have e2 : ∀ w : World, (Instr.index 9 (.string Lib.pop8tab) (.int .u32 (bits .and .u32 (x / 256) 255))).run Try.prog w = .ok (.int .u8 (Lib.pop8 (x / 256 % 256))) w := fun w => by rw [a32 _ (by omega) (by omega)]; exact hm _ _ w (by omega) (by omega)
  have e1 : ∀ w : World, (Instr.index 9 (.string Lib.pop8tab) (.int .u32 (bits .and .u32 (x) 255))).run Try.prog w = .ok (.int .u8 (Lib.pop8 (x % 256))) w := fun w => by rw [a32 _ (by omega) (by omega)]; exact hm _ _ w (by omega) (by omega)
  clear hm a32
  go_enter Try.func38, Try.ntmps38
  go_upto_region 1 with (fail)
  simp only [List.append_eq, List.cons_append, List.nil_append, Lib.fold_pop8tab]
  go_quiet (fail)
  go_wp2
  go_ret
  refine ⟨eret_i64 ?_, ⟨rfl, rfl, rfl, Nat.le_refl _, fun _ _ => rfl⟩⟩
  rw [pop_of _ (by omega) (by omega), pop_of _ (by omega) (by omega), pop_of _ (by omega) (by omega), pop_of _ (by omega) (by omega)]
  have b := on_bytes x.toNat
  have l1 := on_le (x.toNat % 256) 8
  have l2 := on_le (x.toNat / 256 % 256) 8
  have l3 := on_le (x.toNat / 65536 % 256) 8
  have l4 := on_le (x.toNat / 16777216 % 256) 8
  rw [show (x / 16777216).toNat = x.toNat / 16777216 % 256 by omega, show (x / 65536 % 256).toNat = x.toNat / 65536 % 256 by omega, show (x / 256 % 256).toNat = x.toNat / 256 % 256 by omega, show (x % 256).toNat = x.toNat % 256 by omega]
  omega

set_option maxRecDepth 100000 in
set_option maxHeartbeats 1000000 in
theorem len64_any (x : Int) (w : World) (h0 : 0 ≤ x) (h1 : x < 65536) :
    Calls Try.prog 44 #[.int .u64 x] w fun e w' => e = .returned (.int .i64 (Lib.bitLen x.toNat : Nat)) ∧ w = w' := by
  have hm : ∀ i : Int, ∀ k : IntKind, ∀ w : World, 0 ≤ i → i ≤ 255 → (Instr.index 9 (.string Lib.len8tab) (.int k i)).run Try.prog w = .ok (.int .u8 (Lib.len8 i)) w := fun i k w h0 h1 => Lib.run_index_len8tab w 9 k i Try.underlying9 h0 h1
  by_cases h : x < 256
  · have e1 : ∀ w : World, (Instr.index 9 (.string Lib.len8tab) (.int .u8 x)).run Try.prog w = .ok (.int .u8 (Lib.len8 x)) w := fun w => hm _ _ w (by omega) (by omega)
    clear hm
    have l0 := Lib.len8_of x (by omega) (by omega)
    have l := Lib.bitLen_le8' x (by omega) (by omega)
    generalize hL : Lib.len8 x = L at *
    go_enter Try.func44, Try.ntmps44
    go_wp2
    go_ret
    exact ⟨eret_i64 (by omega), rfl⟩
  · have e1 : ∀ w : World, (Instr.index 9 (.string Lib.len8tab) (.int .u8 (x / 256))).run Try.prog w = .ok (.int .u8 (Lib.len8 (x / 256))) w := fun w => hm _ _ w (by omega) (by omega)
    clear hm
    have l0 := Lib.len8_of (x / 256) (by omega) (by omega)
    have l := Lib.bitLen_le8' (x / 256) (by omega) (by omega)
    have e : (x / 256).toNat = x.toNat / 256 := by omega
    have s := Lib.bitLen_shift8 x.toNat (by omega) (by omega)
    rw [e] at l0 l
    generalize hL : Lib.len8 (x / 256) = L at *
    go_enter Try.func44, Try.ntmps44
    go_wp2
    go_ret
    exact ⟨eret_i64 (by omega), rfl⟩

theorem len_any (x : Int) (w : World) (h0 : 0 ≤ x) (h1 : x < 65536) :
    Calls Try.prog 42 #[.int .u64 x] w fun e w' => e = .returned (.int .i64 (Lib.bitLen x.toNat : Nat)) ∧ w = w' := by
  go_enter Try.func42, Try.ntmps42
  go_wp2_with (go_at_call 44; refine (len64_any _ _ h0 h1).mono ?_; rintro e w' ⟨rfl, rfl⟩)
  go_ret
  exact ⟨rfl, rfl⟩

theorem block_any (a : Option Addr) (n c : Nat) (w : World) (hn : n ≤ maxLen) :
    Calls Try.prog 23 #[.slice a n c] w fun e w' => e = .returned (.bool (decide (1 ≤ n ∧ n ≤ 4096))) ∧ w = w' := by
  unfold maxLen at hn
  by_cases h1 : 1 ≤ n
  · have e : decide (1 ≤ n ∧ n ≤ 4096) = decide ((n : Int) ≤ 4096) := by
      by_cases h2 : n ≤ 4096
      · rw [decide_eq_true ⟨h1, h2⟩, decide_eq_true (by omega)]
      · rw [decide_eq_false (fun h => h2 h.2), decide_eq_false (by omega)]
    rw [e]
    go_enter Try.func23, Try.ntmps23
    go_wp2
    go_ret
    exact ⟨rfl, rfl⟩
  · rw [decide_eq_false (fun h => h1 h.1)]
    obtain rfl : n = 0 := by omega
    go_enter Try.func23, Try.ntmps23
    go_wp2
    go_ret
    exact ⟨rfl, rfl⟩

/-- the bit of a place -/
theorem log2_two {s : Nat} (h0 : 3 ≤ s) : s.log2 + 2 ≤ s := by
  have hl : 2 ^ s.log2 ≤ s := Nat.log2_self_le (by omega)
  have h3 : ∀ n, 2 ≤ n → n + 2 ≤ 2 ^ n := by
    intro n hn
    induction n with
    | zero => omega
    | succ n ih =>
      rcases (by omega : n = 1 ∨ 2 ≤ n) with rfl | h
      · decide
      · have := ih h; rw [Nat.pow_succ]; omega
  rcases Nat.lt_or_ge s.log2 2 with h | h
  · omega
  · have := h3 _ h; omega
theorem bitAt_any (s : Nat) (w : World) (h0 : 3 ≤ s) (h1 : s < 65536) :
    Calls Try.prog 40 #[.int .i64 s] w fun e w' => e = .returned (.int .i64 ((s - s.log2 - 2 : Nat) : Int)) ∧ w = w' := by
  have hb : Lib.bitLen s = s.log2 + 1 := log2_len (by omega) (by omega)
  have h2 := log2_two h0
  go_enter Try.func40, Try.ntmps40
  go_wp2_with (go_at_call 42; refine (len_any _ _ (by omega) (by omega)).mono ?_; rintro e w' ⟨rfl, rfl⟩)
  go_ret
  refine ⟨eret_i64 ?_, rfl⟩
  omega

end Go.Proofs.Ytdcpbbfaakddaaa
