/-
  A path's names: the document's call Parse. Nothing of one statement alone stands here.
-/
import Derived.Test.YtaielamimkigmaaStrRefP
namespace Go.Proofs.Ytaielamimkigmaa
open Go.RowKit Go.ChangeShapes

/-- why so many of the first texts are no names of a path (0: they are) -/
def chk (l : List ByteArray) : Nat → Int
  | 0 => 0
  | k + 1 => if chk l k = 0 then (if Nm (l.getD k ⟨#[]⟩) then (if 15 < k then 30 else 0) else 31) else chk l k
theorem chk_stays {l : List ByteArray} {k n : Nat} (h : chk l k ≠ 0) (hn : k ≤ n) : chk l n = chk l k := by
  induction n with
  | zero => rw [show k = 0 by omega]
  | succ n ih =>
    by_cases e : k = n + 1
    · rw [e]
    · have g := ih (by omega)
      simp only [chk]
      rw [g, if_neg h]
theorem chk_name {l : List ByteArray} {k : Nat} (h : chk l k = 0) (hn : Nm (l.getD k ⟨#[]⟩)) (hk : ¬ 15 < k) : chk l (k + 1) = 0 := by
  simp only [chk]; rw [if_pos h, if_pos hn, if_neg hk]
theorem chk_many {l : List ByteArray} {k : Nat} (h : chk l k = 0) (hn : Nm (l.getD k ⟨#[]⟩)) (hk : 15 < k) : chk l (k + 1) = 30 := by
  simp only [chk]; rw [if_pos h, if_pos hn, if_pos hk]
theorem chk_not {l : List ByteArray} {k : Nat} (h : chk l k = 0) (hn : ¬ Nm (l.getD k ⟨#[]⟩)) : chk l (k + 1) = 31 := by
  simp only [chk]; rw [if_pos h, if_neg hn]
/-- what is told of a path: 0, or why it is none -/
def psE (s : ByteArray) : Int := if s.size < 1 ∨ 255 < s.size ∨ slB s = false then 30 else chk (parts s) (parts s).length

/-- what a call of Parse answers -/
def PsP (s : ByteArray) (w : World) (r : Ending) (w' : World) : Prop :=
  ((psE s = 0 ∧ ∃ a k c, r = .returned (.tuple #[.slice a k c, .int .i64 0]) ∧ Rs w' a (parts s) ∧ (parts s).length = k ∧ k ≤ c) ∨
   (psE s ≠ 0 ∧ r = .returned (.tuple #[.slice none 0 0, .int .i64 (psE s)]))) ∧ Below w.heap.size w w'

theorem ps_bad {s : ByteArray} (h : s.size < 1 ∨ 255 < s.size ∨ slB s = false) : psE s = 30 := if_pos h
theorem ps_good {s : ByteArray} (h : ¬ (s.size < 1 ∨ 255 < s.size ∨ slB s = false)) : psE s = chk (parts s) (parts s).length := if_neg h
theorem slB_byte {s : ByteArray} (h : 0 < s.size) : slB s = true ↔ s[0].toNat = 47 := by
  obtain ⟨⟨l⟩⟩ := s
  match l, h with
  | b :: r, h =>
    have e : (⟨⟨b :: r⟩⟩ : ByteArray)[0] = b := rfl
    rw [e]
    unfold slB
    simp only [List.head?_cons, beq_iff_eq, Option.some.injEq]
    constructor
    · rintro rfl; rfl
    · intro g; exact UInt8.toNat_inj.1 (by rw [g]; rfl)
  | [], h => exact absurd h (by decide)

end Go.Proofs.Ytaielamimkigmaa
