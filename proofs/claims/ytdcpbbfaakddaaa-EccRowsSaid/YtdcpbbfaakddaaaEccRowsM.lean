/-
  Rows of blocks, their codes, as lists. Nothing of the program stands here.
-/
import Derived.Test.YtdcpbbfaakddaaaEccBits
import Derived.Test.YtdcpbbfaakddaaaTagMath
namespace Eccm
open Tagm

/-- the block i -/
def ck (l : List Int) (n i : Nat) : List Int := (l.drop (i * n)).take n
/-- the codes of blocks by their numbers -/
def cl (l : List Int) (n : Nat) (pre : List Nat) : List Int := pre.flatMap (fun i => le 4 (cb (ck l n i)))
theorem cl_snoc (l : List Int) (n : Nat) (pre : List Nat) (x : Nat) : cl l n (pre ++ [x]) = cl l n pre ++ le 4 (cb (ck l n x)) := by
  unfold cl; rw [List.flatMap_append]; simp
theorem cl_length (l : List Int) (n : Nat) (pre : List Nat) : (cl l n pre).length = 4 * pre.length := by
  induction pre with
  | nil => rfl
  | cons x r ih =>
    show (le 4 (cb (ck l n x)) ++ cl l n r).length = _
    rw [List.length_append, ih, le_length, List.length_cons]; omega
theorem cl_U8 (l : List Int) (n : Nat) (pre : List Nat) : ∀ b ∈ cl l n pre, Crcm.U8 b := by
  intro b hb
  unfold cl at hb
  obtain ⟨i, -, hi⟩ := List.mem_flatMap.1 hb
  exact le_U8 4 _ b hi
theorem ck_length {l : List Int} {L n i : Nat} (hl : l.length = L) : (ck l n i).length = if L - i * n < n then L - i * n else n := by
  unfold ck; rw [List.length_take, List.length_drop, hl]; split <;> omega
end Eccm
