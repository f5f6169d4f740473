/-
  Sets of bytes as four words of 64 digits. Nothing of the program stands here.
-/
namespace Globm

/-- the digits that tell of b, b + 1 .., n of them -/
def wd (P : Nat → Bool) (b : Nat) : Nat → Nat
  | 0 => 0
  | n + 1 => wd P b n ||| (if P (b + n) then 2 ^ n else 0)
theorem wd_lt (P : Nat → Bool) (b n : Nat) : wd P b n < 2 ^ n := by
  induction n with
  | zero => simp [wd]
  | succ n ih =>
    unfold wd
    have h : (2 : Nat) ^ n < 2 ^ (n + 1) := Nat.pow_lt_pow_succ (by decide)
    refine Nat.or_lt_two_pow (Nat.lt_trans ih h) ?_
    split
    · exact h
    · exact Nat.two_pow_pos _
theorem wd_bit (P : Nat → Bool) (b n i : Nat) : (wd P b n).testBit i = (decide (i < n) && P (b + i)) := by
  induction n with
  | zero => simp [wd]
  | succ n ih =>
    unfold wd
    rw [Nat.testBit_or, ih]
    by_cases e : n = i
    · subst e
      by_cases h : P (b + n) <;> simp [h]
    · have : (if P (b + n) then 2 ^ n else 0).testBit i = false := by
        split
        · rw [Nat.testBit_two_pow]; simp [e]
        · simp
      rw [this, Bool.or_false]
      by_cases h : i < n
      · rw [decide_eq_true h, decide_eq_true (by omega : i < n + 1)]
      · rw [decide_eq_false h, decide_eq_false (by omega : ¬ i < n + 1)]
/-- the word j of a set -/
def wj (P : Nat → Bool) (j : Nat) : Nat := wd P (64 * j) 64
theorem wj_lt (P : Nat → Bool) (j : Nat) : wj P j < 18446744073709551616 := wd_lt P (64 * j) 64
theorem wj_bit (P : Nat → Bool) (j i : Nat) : (wj P j).testBit i = (decide (i < 64) && P (64 * j + i)) := wd_bit P (64 * j) 64 i
theorem wj_ext {P Q : Nat → Bool} {j : Nat} (h : ∀ i, i < 64 → P (64 * j + i) = Q (64 * j + i)) : wj P j = wj Q j := by
  apply Nat.eq_of_testBit_eq
  intro i
  rw [wj_bit, wj_bit]
  by_cases hi : i < 64
  · rw [h i hi]
  · simp [hi]
theorem wj_or (P Q : Nat → Bool) (j : Nat) : wj P j ||| wj Q j = wj (fun x => P x || Q x) j := by
  apply Nat.eq_of_testBit_eq
  intro i
  rw [Nat.testBit_or, wj_bit, wj_bit, wj_bit]
  by_cases hi : i < 64 <;> simp [hi]
theorem wj_not (P : Nat → Bool) (j : Nat) : 18446744073709551615 - wj P j = wj (fun x => !P x) j := by
  apply Nat.eq_of_testBit_eq
  intro i
  have h := Nat.testBit_two_pow_sub_succ (x := wj P j) (n := 64) (wj_lt P j) i
  rw [show 2 ^ 64 - (wj P j + 1) = 18446744073709551615 - wj P j by have := wj_lt P j; omega] at h
  rw [h, wj_bit, wj_bit]
  by_cases hi : i < 64 <;> simp [hi]
/-- a digit more -/
theorem wj_add (P : Nat → Bool) (x : Nat) : wj P (x / 64) ||| 2 ^ (x % 64) = wj (fun y => P y || y == x) (x / 64) := by
  apply Nat.eq_of_testBit_eq
  intro i
  rw [Nat.testBit_or, wj_bit, wj_bit, Nat.testBit_two_pow]
  by_cases hi : i < 64
  · have : (64 * (x / 64) + i == x) = decide (x % 64 = i) := by
      by_cases e : x % 64 = i
      · simp [e]; omega
      · simp [e]; omega
    simp [hi, this]
  · have : ¬ x % 64 = i := by omega
    simp [hi, this]
theorem wj_else (P : Nat → Bool) (x j : Nat) (h : j ≠ x / 64) : wj (fun y => P y || y == x) j = wj P j := by
  apply wj_ext
  intro i hi
  have : (64 * j + i == x) = false := by simp; omega
  rw [this, Bool.or_false]
theorem wj_has (P : Nat → Bool) (x : Nat) : (wj P (x / 64) / 2 ^ (x % 64)) % 2 = if P x then 1 else 0 := by
  have h := wj_bit P (x / 64) (x % 64)
  rw [Nat.testBit_eq_decide_div_mod_eq, decide_eq_true (by omega : x % 64 < 64), Bool.true_and, show 64 * (x / 64) + x % 64 = x by omega] at h
  cases hp : P x
  · rw [hp] at h; simp at h; simp; omega
  · rw [hp] at h; simp at h; simp; omega
theorem wj_none {P : Nat → Bool} {j : Nat} : wj P j = 0 ↔ ∀ i, i < 64 → P (64 * j + i) = false := by
  constructor
  · intro h i hi
    have := wj_bit P j i
    rw [h] at this
    simp [hi] at this
    exact this
  · intro h
    apply Nat.eq_of_testBit_eq
    intro i
    rw [wj_bit]
    by_cases hi : i < 64
    · rw [h i hi]; simp
    · simp [hi]
/-- a set is empty just where its words are nothing -/
theorem wj_empty {P : Nat → Bool} : (wj P 0 = 0 ∧ wj P 1 = 0 ∧ wj P 2 = 0 ∧ wj P 3 = 0) ↔ ∀ x, x < 256 → P x = false := by
  constructor
  · rintro ⟨h0, h1, h2, h3⟩ x hx
    have k0 := wj_none.1 h0
    have k1 := wj_none.1 h1
    have k2 := wj_none.1 h2
    have k3 := wj_none.1 h3
    have e := Nat.div_add_mod x 64
    have m := Nat.mod_lt x (by decide : 0 < 64)
    rw [← e]
    have : x / 64 = 0 ∨ x / 64 = 1 ∨ x / 64 = 2 ∨ x / 64 = 3 := by omega
    rcases this with h | h | h | h <;> rw [h]
    · exact k0 _ m
    · exact k1 _ m
    · exact k2 _ m
    · exact k3 _ m
  · intro h
    exact ⟨wj_none.2 fun i hi => h _ (by omega), wj_none.2 fun i hi => h _ (by omega), wj_none.2 fun i hi => h _ (by omega), wj_none.2 fun i hi => h _ (by omega)⟩
end Globm
