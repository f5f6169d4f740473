/-
  Plain facts on the ways to a file's pages: how many pages there are, and the three numbers of a way. Nothing of the program stands here.
-/
import Derived.Test.YtaohkakefdhecaaTagMath
namespace Inom
open Crcm Tagm

/-- how many pages a file has at most -/
def pgs (s : Int) : Int := 6 + s / 2 + s / 2 * (s / 2)
/-- a way's level, its first number, its second -/
def lv (s n : Int) : Int := if n < 6 then 0 else if n < 6 + s / 2 then 1 else 2
def fi (s n : Int) : Int := if n < 6 then n else if n < 6 + s / 2 then n - 6 else (n - 6 - s / 2) / (s / 2)
def se (s n : Int) : Int := if n < 6 + s / 2 then 0 else (n - 6 - s / 2) % (s / 2)
/-- the error of a way -/
def toE (s n : Int) : Int := if Sz s then (if n < 0 ∨ pgs s ≤ n then 52 else 0) else 1

theorem toE_size {s n : Int} (h : ¬ Sz s) : toE s n = 1 := if_neg h
theorem toE_index {s n : Int} (h : Sz s) (h2 : n < 0 ∨ pgs s ≤ n) : toE s n = 52 := by unfold toE; rw [if_pos h, if_pos h2]
theorem toE_ok {s n : Int} (h : Sz s) (h2 : ¬ (n < 0 ∨ pgs s ≤ n)) : toE s n = 0 := by unfold toE; rw [if_pos h, if_neg h2]
theorem toE_iff {s n : Int} : toE s n = 0 ↔ Sz s ∧ 0 ≤ n ∧ n < pgs s := by
  unfold toE
  by_cases h : Sz s
  · rw [if_pos h]
    by_cases h2 : n < 0 ∨ pgs s ≤ n
    · rw [if_pos h2]; constructor
      · intro h; omega
      · rintro ⟨_, a, b⟩; omega
    · rw [if_neg h2]; constructor
      · intro _; exact ⟨h, by omega, by omega⟩
      · intro _; rfl
  · rw [if_neg h]; constructor
    · intro h; omega
    · rintro ⟨a, _⟩; exact absurd a h

/-- the greatest number of bytes of a file -/
def most (s : Int) : Int := if s = 64 then 67968 else if s = 128 then 533248 else if s = 256 then 4228608 else if s = 512 then 33688576 else 0
/-- how many inodes a table page has -/
def per (s : Int) : Int := if Sz s then s / 24 else 0
theorem per_yes {s : Int} (h : Sz s) : per s = s / 24 := if_pos h
theorem per_no {s : Int} (h : ¬ Sz s) : per s = 0 := if_neg h

end Inom
