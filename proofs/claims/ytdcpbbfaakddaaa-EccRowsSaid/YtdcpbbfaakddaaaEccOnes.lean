/-
  How many binary digits are 1, by halves and by bytes; powers of 2; how long a number is. Nothing of the program stands here.
-/
import Derived.Test.YtdcpbbfaakddaaaEccMath
import Derived.Lib.BitFns
namespace Eccm
open Go

theorem on_add (x a : Nat) : ∀ b, on x (a + b) = on x a + on (x / 2 ^ a) b := by
  intro b
  induction b with
  | zero => rfl
  | succ b ih =>
    show on x (a + b) + (x.testBit (a + b)).toNat = on x a + (on (x / 2 ^ a) b + ((x / 2 ^ a).testBit b).toNat)
    rw [ih, Nat.testBit_div_two_pow, Nat.add_comm b a, Nat.add_assoc]
theorem on_half (x n : Nat) : on x (n + 1) = x % 2 + on (x / 2) n := by
  rw [Nat.add_comm n 1, on_add x 1 n]
  have : on x 1 = x % 2 := by
    show 0 + (x.testBit 0).toNat = _
    rw [Nat.testBit_zero]
    rcases Nat.mod_two_eq_zero_or_one x with h | h <;> rw [h] <;> rfl
  rw [this, Nat.pow_one]
theorem on_nil {n : Nat} : ∀ {x : Nat}, x < 2 ^ n → on x n = 0 → x = 0 := by
  induction n with
  | zero => intro x h _; simpa using h
  | succ n ih =>
    intro x h h0
    rw [on_half] at h0
    have := ih (x := x / 2) (by rw [Nat.pow_succ] at h; omega) (by omega)
    omega
theorem on_zero (n : Nat) : on 0 n = 0 := by
  induction n with
  | zero => rfl
  | succ n ih => rw [on_half]; simpa using ih
theorem on_one {n : Nat} : ∀ {x : Nat}, x < 2 ^ n → on x n = 1 → pw x = true := by
  induction n with
  | zero => intro x h h1; exact absurd h1 (by show ¬ (0:Nat) = 1; decide)
  | succ n ih =>
    intro x h h1
    rw [on_half] at h1
    rcases Nat.mod_two_eq_zero_or_one x with h2 | h2
    · rw [pw_even h2]
      exact ih (by rw [Nat.pow_succ] at h; omega) (by omega)
    · have := on_nil (x := x / 2) (n := n) (by rw [Nat.pow_succ] at h; omega) (by omega)
      have : x = 1 := by omega
      rw [this]; decide
theorem on_pw {x n : Nat} (h : x < 2 ^ n) (hp : pw x = true) : on x n = 1 := by
  obtain ⟨i, rfl⟩ := pw_iff.1 hp
  rw [on_pow, if_pos ((Nat.pow_lt_pow_iff_right (by decide)).1 h)]
theorem on_one_iff {x n : Nat} (h : x < 2 ^ n) : decide (on x n = 1) = pw x := by
  rcases hp : pw x with _ | _
  · exact decide_eq_false fun e => by rw [on_one h e] at hp; cases hp
  · exact decide_eq_true (on_pw h hp)
theorem on_more {x n m : Nat} (h : x < 2 ^ n) (hm : n ≤ m) : on x m = on x n := on_small h m hm
theorem on_le (x : Nat) : ∀ n, on x n ≤ n := by
  intro n
  induction n with
  | zero => exact Nat.le_refl _
  | succ n ih => show on x n + (x.testBit n).toNat ≤ n + 1; have := Bool.toNat_le (x.testBit n); omega

theorem pop_on : ∀ n : Fin 256, Lib.pop8 (n.val : Int) = (on n.val 8 : Int) := by decide +kernel
theorem pop_of (b : Int) (h0 : 0 ≤ b) (h1 : b ≤ 255) : Lib.pop8 b = (on b.toNat 8 : Int) := by
  have e := pop_on ⟨b.toNat, by omega⟩
  simpa only [Int.toNat_of_nonneg h0] using e
/-- four bytes -/
theorem on_bytes (x : Nat) : on x 32 = on (x % 256) 8 + on (x / 256 % 256) 8 + on (x / 65536 % 256) 8 + on (x / 16777216 % 256) 8 := by
  have m : ∀ y, on (y % 256) 8 = on y 8 := fun y => on_mod y 8 8 (Nat.le_refl _)
  rw [m, m, m, m, show (32 : Nat) = 8 + 24 from rfl, on_add, show (24 : Nat) = 8 + 16 from rfl, on_add, show (16 : Nat) = 8 + 8 from rfl, on_add, Nat.div_div_eq_div_mul, Nat.div_div_eq_div_mul]
  simp only [show (2 : Nat) ^ 8 = 256 from rfl, show 256 * 256 = 65536 from rfl, show 65536 * 256 = 16777216 from rfl]
  omega

/-- no power of 2: x & (x-1) -/
theorem and_pred {x : Nat} (h : 0 < x) : (x &&& (x - 1) = 0) ↔ pw x = true := by
  constructor
  · intro h0
    refine pw_iff.2 ⟨x.log2, ?_⟩
    have h1 : 2 ^ x.log2 ≤ x := Nat.log2_self_le (by omega)
    have h2 : x < 2 ^ (x.log2 + 1) := Nat.lt_log2_self
    rcases (by omega : x = 2 ^ x.log2 ∨ 2 ^ x.log2 < x) with e | e
    · exact e
    · exfalso
      have a : x.testBit x.log2 = true := by
        rw [Nat.testBit_eq_decide_div_mod_eq]
        have : x / 2 ^ x.log2 = 1 := by rw [Nat.pow_succ] at h2; exact Nat.div_eq_of_lt_le (by omega) (by omega)
        rw [this]; rfl
      have b : (x - 1).testBit x.log2 = true := by
        rw [Nat.testBit_eq_decide_div_mod_eq]
        have : (x - 1) / 2 ^ x.log2 = 1 := by rw [Nat.pow_succ] at h2; exact Nat.div_eq_of_lt_le (by omega) (by omega)
        rw [this]; rfl
      have c := congrArg (fun y => Nat.testBit y x.log2) h0
      simp only [Nat.testBit_and, a, b, Nat.zero_testBit] at c
      cases c
  · intro hp
    obtain ⟨i, rfl⟩ := pw_iff.1 hp
    apply Nat.eq_of_testBit_eq
    intro j
    rw [Nat.testBit_and, Nat.testBit_two_pow, Nat.testBit_two_pow_sub_one, Nat.zero_testBit]
    by_cases e : i = j
    · subst e; simp
    · simp [e]

theorem log2_len {x : Nat} (h0 : 0 < x) (h : x < 2 ^ 64) : Lib.bitLen x = x.log2 + 1 := by
  have key : ∀ n x, 0 < x → x < 2 ^ n → n ≤ 64 → Lib.bitLen x = x.log2 + 1 := by
    intro n
    induction n with
    | zero => intro x h0 h1; simp at h1; omega
    | succ n ih =>
      intro x h0 h1 hn
      have h64 : x < 2 ^ 64 := Nat.lt_of_lt_of_le h1 (Nat.pow_le_pow_right (by decide) hn)
      rw [Lib.bitLen_half x (by omega) h64]
      by_cases h2 : x = 1
      · subst h2; decide
      · rw [ih (x / 2) (by omega) (by rw [Nat.pow_succ] at h1; omega) (by omega)]
        rw [Nat.log2_def x, if_pos (by omega)]
        omega
  exact key 64 x h0 h (Nat.le_refl _)
end Eccm
