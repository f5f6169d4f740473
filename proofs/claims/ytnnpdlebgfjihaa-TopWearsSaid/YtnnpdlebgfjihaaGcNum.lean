/-
  What is counted in a row of blocks, and what may be erased in it, in plain numbers.
-/
import Derived.Test.YtnnpdlebgfjihaaGcMath
import Derived.WalkKit
namespace Gcm
open Go Go.RowKit
/-- what may be erased, by its place -/
def mayAt (l : List Bk) (p k : Int) : Bool := decide (Rt l p) && decide (0 ≤ k) && decide (k < l.length) && may (least l) l[k.toNat]!

theorem mayAt_no {l : List Bk} {p k : Int} (h : ¬ Rt l p) : mayAt l p k = false := by unfold mayAt; rw [decide_eq_false h]; rfl
theorem mayAt_out {l : List Bk} {p k : Int} (h : k < 0 ∨ (l.length : Int) ≤ k) : mayAt l p k = false := by
  unfold mayAt
  rcases h with h | h
  · rw [decide_eq_false (show ¬ 0 ≤ k by omega)]; simp
  · rw [decide_eq_false (show ¬ k < (l.length : Int) by omega)]; simp
theorem mayAt_in {l : List Bk} {p : Int} {q : Nat} (h : Rt l p) (hq : q < l.length) : mayAt l p (q : Int) = may (least l) l[q]! := by
  unfold mayAt
  rw [decide_eq_true h, decide_eq_true (show (0 : Int) ≤ q by omega), decide_eq_true (show (q : Int) < (l.length : Int) by omega), Int.toNat_natCast]
  simp

/-- how many of the first are in a state; what is needed in them -/
def cnt (s : Int) (l : List Bk) : Nat → Int
  | 0 => 0
  | k + 1 => if (l[k]!.st == s) = true then wrap64 (cnt s l k + 1) else cnt s l k
def lvs (l : List Bk) : Nat → Int
  | 0 => 0
  | k + 1 => wrap64 (lvs l k + l[k]!.lv)
theorem cnt_at {s : Int} {l : List Bk} {k : Nat} {y : Bk} (h : l[k]! = y) : cnt s l (k + 1) = if (y.st == s) = true then wrap64 (cnt s l k + 1) else cnt s l k := by subst h; rfl
theorem lvs_at {l : List Bk} {k : Nat} {y : Bk} (h : l[k]! = y) : lvs l (k + 1) = wrap64 (lvs l k + y.lv) := by subst h; rfl


theorem best_yes {fit : Bk → Bool} {bt : Bk → Bk → Bool} {l : List Bk} {k : Nat} {y : Bk} (hy : l[k]! = y) (hf : fit y = true) (h : best fit bt l k < 0) : best fit bt l (k + 1) = k := by
  subst hy
  simp only [best]
  rw [hf, decide_eq_true h]
  rfl
theorem best_no {fit : Bk → Bool} {bt : Bk → Bk → Bool} {l : List Bk} {k : Nat} {y : Bk} (hy : l[k]! = y) (hf : fit y = false) : best fit bt l (k + 1) = best fit bt l k := by
  subst hy
  simp only [best]
  rw [hf]
  rfl
theorem best_bt {fit : Bk → Bool} {bt : Bk → Bk → Bool} {l : List Bk} {k q : Nat} {x y : Bk} (hy : l[k]! = y) (hf : fit y = true) (hq : best fit bt l k = (q : Int)) (hx : l[q]! = x) :
    best fit bt l (k + 1) = if bt y x = true then (k : Int) else (q : Int) := by
  subst hy hx
  simp only [best]
  rw [hf, hq, Int.toNat_natCast, decide_eq_false (show ¬ (q : Int) < 0 by omega), Bool.true_and, Bool.false_or]

/-- what the first so many blocks are, one by one -/
def Rk (l : List Bk) (p : Int) (k : Nat) : Prop := ∀ j, j < k → Rb p l[j]!
theorem Rk_all (l : List Bk) (p : Int) (h1 : 1 ≤ p) (h2 : p ≤ 32) (h : Rk l p l.length) : Rt l p := ⟨⟨h1, h2⟩, fun b hb => by obtain ⟨j, hj, rfl⟩ := mem_getB l b hb; exact h j hj⟩
theorem Rk_no (l : List Bk) (p : Int) (k : Nat) (hk : k < l.length) (h : ¬ Rb p l[k]!) : ¬ Rt l p := fun g => h (g.2 _ (getB_mem l k hk))
theorem Rk_step (l : List Bk) (p : Int) (k : Nat) (h : Rk l p k) (g : Rb p l[k]!) : Rk l p (k + 1) := fun j hj => by
  by_cases e : j = k
  · subst e; exact g
  · exact h j (by omega)
theorem wearAt_yes {bt : Bk → Bk → Bool} {l : List Bk} {k : Nat} {y : Bk} (hy : l[k]! = y) (h : best good bt l (k + 1) = k) : wearAt bt l (k + 1) = y.wr := by
  subst hy
  unfold wearAt
  rw [h, if_neg (by omega), Int.toNat_natCast]
theorem wearAt_no {bt : Bk → Bk → Bool} {l : List Bk} {k : Nat} (h : best good bt l (k + 1) = best good bt l k) : wearAt bt l (k + 1) = wearAt bt l k := by
  unfold wearAt
  rw [h]
theorem wearAt_of {bt : Bk → Bk → Bool} {l : List Bk} {k : Nat} (h : ¬ best good bt l k < 0) : wearAt bt l k = l[(best good bt l k).toNat]!.wr := by
  unfold wearAt
  rw [if_neg h]

/-- how the best Wear goes on, block by block -/
theorem wear_step (cmp : Int → Int → Bool) (l : List Bk) (k : Nat) (y : Bk) (hy : l[k]! = y) :
    wearAt (fun a b => cmp a.wr b.wr) l (k + 1) = (if (good y && (!decide (0 ≤ best good (fun a b => cmp a.wr b.wr) l k) || cmp y.wr (wearAt (fun a b => cmp a.wr b.wr) l k))) = true then y.wr else wearAt (fun a b => cmp a.wr b.wr) l k) ∧
    decide (0 ≤ best good (fun a b => cmp a.wr b.wr) l (k + 1)) = (good y || decide (0 ≤ best good (fun a b => cmp a.wr b.wr) l k)) := by
  cases hg : good y with
  | false =>
    have e := best_no (bt := fun a b => cmp a.wr b.wr) hy hg
    exact ⟨by rw [wearAt_no e]; rfl, by rw [e]; rfl⟩
  | true =>
    by_cases h0 : best good (fun a b => cmp a.wr b.wr) l k < 0
    · have e := best_yes hy hg h0
      have d : decide (0 ≤ best good (fun a b => cmp a.wr b.wr) l k) = false := decide_eq_false (by omega)
      refine ⟨?_, ?_⟩
      · rw [wearAt_yes hy e, d]; rfl
      · rw [e, decide_eq_true (by omega)]; rfl
    · obtain ⟨q, hq⟩ : ∃ q : Nat, best good (fun a b => cmp a.wr b.wr) l k = q := ⟨_, (Int.toNat_of_nonneg (by omega)).symm⟩
      have e := best_bt hy hg hq rfl
      have ew : wearAt (fun a b => cmp a.wr b.wr) l k = l[q]!.wr := by rw [wearAt_of h0, hq, Int.toNat_natCast]
      have d : decide (0 ≤ best good (fun a b => cmp a.wr b.wr) l k) = true := decide_eq_true (by omega)
      rw [ew, d]
      cases hc : cmp y.wr l[q]!.wr with
      | true =>
        rw [if_pos (show cmp y.wr l[q]!.wr = true from hc)] at e
        exact ⟨by rw [wearAt_yes hy e]; rfl, by rw [e, decide_eq_true (by omega)]; rfl⟩
      | false =>
        rw [if_neg (show ¬ cmp y.wr l[q]!.wr = true by rw [hc]; exact Bool.false_ne_true)] at e
        exact ⟨by rw [wearAt_no (e.trans hq.symm), ew]; rfl, by rw [e, decide_eq_true (by omega)]; rfl⟩
end Gcm
