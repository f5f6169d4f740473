/-
  Pages that are loaded: which page of a block is next, and both chips behind it. Nothing of one statement alone stands here.
-/
import Derived.Test.YtiaaeiefgnoiaaaRxBoth
namespace Go.Proofs.Ytiaaeiefgnoiaaa
open Go.RowKit Crcm Go.ChangeShapes

/-- the next pages of all blocks behind so many pages -/
def ldn (ls : List (List Int)) (np : Nat) : Nat → Nat → Int
  | 0 => fun _ => 0
  | j + 1 => if ls[j]! = [] then ldn ls np j else up1 (ldn ls np j) (j / np) (((j % np : Nat) : Int) + 1)
/-- the pages of a block -/
def blkp (ls : List (List Int)) (np k : Nat) : Nat → Option (List Int) := fun i => opt ls[k * np + i]!
theorem opt_none {l : List Int} : (opt l).isSome = false ↔ l = [] := by
  unfold opt
  by_cases h : l = []
  · rw [if_pos h]; simp [h]
  · rw [if_neg h]; simp [h]
theorem opt_get (l : List Int) : (opt l).getD [] = l := by
  unfold opt
  by_cases h : l = []
  · rw [if_pos h, h]; rfl
  · rw [if_neg h]; rfl
theorem ldn_eq (ls : List (List Int)) {np : Nat} (hp : 0 < np) : ∀ j k, ldn ls np j k = (nx (blkp ls np k) (min np (j - k * np)) : Nat) := by
  intro j
  induction j with
  | zero =>
    intro k
    rw [Nat.zero_sub, Nat.min_zero]
    rfl
  | succ j ih =>
    intro k
    have hj : j / np * np + j % np = j := by rw [Nat.mul_comm]; exact Nat.div_add_mod j np
    have hr := Nat.mod_lt j hp
    by_cases hk : k = j / np
    · subst hk
      have e1 : min np (j - j / np * np) = j % np := by rw [show j - j / np * np = j % np by omega]; exact Nat.min_eq_right (by omega)
      have e2 : min np (j + 1 - j / np * np) = j % np + 1 := by rw [show j + 1 - j / np * np = j % np + 1 by omega]; exact Nat.min_eq_right (by omega)
      have e3 : blkp ls np (j / np) (j % np) = opt ls[j]! := by unfold blkp; rw [hj]
      rw [e2]
      rw [ldn, nx, e3]
      by_cases h : ls[j]! = []
      · rw [if_pos h, if_neg (by rw [opt_none.2 h]; decide), ih, e1]
      · rw [if_neg h, up1_at, if_pos (by cases hq : (opt ls[j]!).isSome with | true => rfl | false => exact absurd (opt_none.1 hq) h)]
        push_cast
        rfl
    · have e : ldn ls np (j + 1) k = ldn ls np j k := by
        rw [ldn]
        by_cases h : ls[j]! = []
        · rw [if_pos h]
        · rw [if_neg h, up1_ne _ _ hk]
      rw [e, ih]
      have e1 : min np (j - k * np) = min np (j + 1 - k * np) := by
        rcases Nat.lt_or_ge k (j / np) with h | h
        · have : (k + 1) * np ≤ j / np * np := Nat.mul_le_mul_right _ h
          rw [Nat.succ_mul] at this
          rw [Nat.min_eq_left (by omega), Nat.min_eq_left (by omega)]
        · have : (j / np + 1) * np ≤ k * np := Nat.mul_le_mul_right _ (by omega)
          rw [Nat.succ_mul] at this
          rw [show j - k * np = 0 by omega, show j + 1 - k * np = 0 by omega]
      rw [e1]
/-- the program's chip of pages, and the document's -/
def ldC (nb np sz : Nat) (ls : List (List Int)) (bs : List Bool) (ws : List Int) : Ch := ⟨nb, np, sz, blkp ls np, fun _ => false, fun k => bs[k]!, fun k => ws[k]!, true, [], 0, 0, 0⟩
def ldR (nb np sz : Nat) (ls : List (List Int)) (bs : List Bool) (ws : List Int) : Rx := ⟨nb, np, sz, fun i => if i < nb * np then ls[i]! else [], ldn ls np (nb * np), fun _ => false, fun k => if k < nb then bs[k]! else false, fun k => if k < nb then ws[k]! else 0, [], 0, false, 0, 0⟩
theorem ld_lk {nb np sz : Nat} (hg : Gd nb np sz) (ls : List (List Int)) (bs : List Bool) (ws : List Int) : Lk (ldC nb np sz ls bs ws) (ldR nb np sz ls bs ws) := by
  obtain ⟨h1, h2, h3, h4, -⟩ := hg
  refine ⟨⟨⟨rfl, rfl, rfl⟩, fun k i hk hi => ?_, fun k hk => ?_, fun k hk => ?_, rfl, rfl, rfl⟩, fun k hk => ?_, fun _ _ => rfl, ⟨rfl, rfl⟩, ⟨h1, h2, h3⟩⟩
  · show (if k * np + i < nb * np then ls[k * np + i]! else []) = (blkp ls np k i).getD []
    have hk2 : k < nb := hk
    have hi2 : i < np := hi
    rw [if_pos (page_ix hk2 hi2)]
    unfold blkp
    rw [opt_get]
  · show (if k < nb then bs[k]! else false) = bs[k]!
    exact if_pos hk
  · show (if k < nb then ws[k]! else 0) = ws[k]!
    exact if_pos hk
  · show ldn ls np (nb * np) k = (nx (blkp ls np k) np : Nat)
    have : (k + 1) * np ≤ nb * np := Nat.mul_le_mul_right _ hk
    rw [Nat.succ_mul] at this
    rw [ldn_eq ls (by omega), show min np (nb * np - k * np) = np from Nat.min_eq_left (by omega)]

end Go.Proofs.Ytiaaeiefgnoiaaa
