/-
  Bits of blocks, a bit that is turned, what comes of mending. Nothing of the program stands here.
-/
import Derived.Test.YtdcpbbfaakddaaaEccMath
namespace Eccm

/-- a bit of a block -/
def bt (b : List Int) (k : Nat) : Bool := (b.getD (k / 8) 0).toNat.testBit (k % 8)
/-- a block of which a bit is turned -/
def tn (b : List Int) (k : Nat) : List Int := b.set (k / 8) (((b.getD (k / 8) 0).toNat ^^^ 2 ^ (k % 8) : Nat) : Int)
theorem tn_length (b : List Int) (k : Nat) : (tn b k).length = b.length := by unfold tn; rw [List.length_set]
theorem getD_setD (b : List Int) (i j : Nat) (x : Int) (h : i < b.length) : (b.set i x).getD j 0 = if j = i then x else b.getD j 0 := by
  rw [List.getD_eq_getElem?_getD, List.getD_eq_getElem?_getD]
  by_cases e : j = i
  · subst e; rw [if_pos rfl]; simp [h]
  · rw [if_neg e, List.getElem?_set_ne (by omega)]
theorem bt_tn (b : List Int) (k : Nat) (h : k < 8 * b.length) : bt (tn b k) = tw (bt b) k := by
  funext j
  unfold bt tn tw
  rw [getD_setD _ _ _ _ (by omega)]
  by_cases e : j / 8 = k / 8
  · rw [if_pos e, Int.toNat_natCast, Nat.testBit_xor, Nat.testBit_two_pow]
    by_cases e2 : j = k
    · subst e2; simp
    · have : ¬ k % 8 = j % 8 := by omega
      rw [if_neg e2]; simp only [e]; simp [this]
  · have : j ≠ k := by rintro rfl; exact e rfl
    rw [if_neg e, if_neg this]
theorem xor_u8 {x : Nat} {i : Nat} (h : x < 256) (hi : i < 8) : x ^^^ 2 ^ i < 256 := Nat.xor_lt_two_pow (n := 8) h ((Nat.pow_lt_pow_iff_right (by decide)).2 hi)
theorem tn_U8 (b : List Int) (k : Nat) (hb : ∀ n ∈ b, 0 ≤ n ∧ n < 256) : ∀ n ∈ tn b k, 0 ≤ n ∧ n < 256 := by
  intro n hn
  rcases List.mem_or_eq_of_mem_set hn with h | rfl
  · exact hb n h
  · have : (b.getD (k / 8) 0).toNat < 256 := by
      rw [List.getD_eq_getElem?_getD]
      by_cases h : k / 8 < b.length
      · have := hb _ (List.getElem_mem h); simp [h]; omega
      · simp [List.getElem?_eq_none (by omega : b.length ≤ k / 8)]
    have := xor_u8 this (by omega : k % 8 < 8)
    omega
theorem tn_tn (b : List Int) (k : Nat) (h : k < 8 * b.length) (hb : ∀ n ∈ b, 0 ≤ n ∧ n < 256) : tn (tn b k) k = b := by
  have hk : k / 8 < b.length := by omega
  unfold tn
  rw [getD_setD _ _ _ _ hk, if_pos rfl, List.set_set, Int.toNat_natCast, xss]
  have := hb _ (List.getElem_mem hk)
  have e : (((b.getD (k / 8) 0).toNat : Nat) : Int) = b[k / 8] := by
    rw [List.getD_eq_getElem?_getD]; simp [hk]; omega
  rw [e, List.set_getElem_self]

/-- a block's code -/
def cb (b : List Int) : Nat := cd (bt b) (8 * b.length)
/-- what comes of mending a block by a code -/
def mb (b : List Int) (c : Nat) : Option Int := mn (bt b) (8 * b.length) c
/-- the bytes as they are mended -/
def mx (b : List Int) (c : Nat) : List Int := match mb b c with
  | none => []
  | some r => if 0 ≤ r then tn b r.toNat else b
def mk (b : List Int) (c : Nat) : Int := (mb b c).getD 0
def me (b : List Int) (c : Nat) : Int := if mb b c = none then 21 else 0
theorem mb_cases (b : List Int) (c : Nat) : mb b c = none ∨ mb b c = some (-1) ∨ mb b c = some (-2) ∨ ∃ k : Nat, k < 8 * b.length ∧ mb b c = some (k : Int) := by
  unfold mb mn mr
  split
  · simp
  split
  · simp
  split
  · rcases h : fnd (8 * b.length) (sy (bt b) (8 * b.length) c) with _ | k
    · simp
    · exact .inr (.inr (.inr ⟨k, (fnd_some h).1, rfl⟩))
  · simp
end Eccm
