/-
  The places where copies are taken, in order. Nothing of the program stands here.
-/
import Derived.Test.YtaohkakefdhecaaSqFind
namespace Sqm
/-- where it stands behind so many steps, and the copies taken till then -/
def wk (l : List Int) : Nat → Nat
  | 0 => 0
  | t + 1 => if wk l t < l.length then (if cpn l (wk l t) = 0 then wk l t + 1 else wk l t + cpn l (wk l t)) else wk l t
def cs (l : List Int) : Nat → List Nat
  | 0 => []
  | t + 1 => if wk l t < l.length ∧ cpn l (wk l t) ≠ 0 then cs l t ++ [wk l t] else cs l t
theorem wk_succ (l : List Int) (t : Nat) : wk l (t + 1) = if wk l t < l.length then (if cpn l (wk l t) = 0 then wk l t + 1 else wk l t + cpn l (wk l t)) else wk l t := rfl
theorem cs_succ (l : List Int) (t : Nat) : cs l (t + 1) = if wk l t < l.length ∧ cpn l (wk l t) ≠ 0 then cs l t ++ [wk l t] else cs l t := rfl
theorem wk_le (l : List Int) : ∀ t, wk l t ≤ l.length
  | 0 => Nat.zero_le _
  | t + 1 => by
    have := wk_le l t
    rw [wk_succ]
    split
    · split
      · omega
      · rename_i h; exact (cpn_spec h).2.2.1
    · exact this
theorem wk_lt {l : List Int} {t : Nat} (h : wk l t < l.length) : wk l t < wk l (t + 1) := by rw [wk_succ, if_pos h]; split <;> omega
theorem wk_ge (l : List Int) : ∀ t, t ≤ l.length → t ≤ wk l t
  | 0, _ => Nat.zero_le _
  | t + 1, h => by
    have := wk_ge l t (by omega)
    have h2 := wk_le l t
    rcases Nat.lt_or_ge (wk l t) l.length with h1 | h1
    · have := wk_lt h1; omega
    · rw [wk_succ, if_neg (by omega)]; omega
theorem wk_end (l : List Int) : wk l l.length = l.length := by have := wk_ge l l.length (Nat.le_refl _); have := wk_le l l.length; omega
theorem cs_pre (l : List Int) (t : Nat) : ∀ d, ∃ r, cs l (t + d) = cs l t ++ r
  | 0 => ⟨[], by simp⟩
  | d + 1 => by
    obtain ⟨r, h⟩ := cs_pre l t d
    show ∃ r, cs l (t + d + 1) = _
    rw [cs_succ]
    split
    · exact ⟨r ++ [wk l (t + d)], by rw [h, List.append_assoc]⟩
    · exact ⟨r, h⟩
theorem wk_mono (l : List Int) (t : Nat) : ∀ d, wk l t ≤ wk l (t + d)
  | 0 => Nat.le_refl _
  | d + 1 => by
    have := wk_mono l t d
    show wk l t ≤ wk l (t + d + 1)
    rw [wk_succ]
    split
    · split <;> omega
    · exact this
theorem cs_stay {l : List Int} {t : Nat} (h : l.length < wk l t + 3) : ∀ d, cs l (t + d) = cs l t
  | 0 => rfl
  | d + 1 => by
    show cs l (t + d + 1) = _
    have h1 := wk_mono l t d
    rw [cs_succ, if_neg, cs_stay h d]
    rintro ⟨-, h2⟩
    exact h2 (cpn_small (by omega))
/-- all of them -/
def cps (l : List Int) : List Nat := cs l l.length
theorem cs_end {l : List Int} {t : Nat} (h : l.length < wk l t + 3) : cs l t = cps l := by
  unfold cps
  rcases Nat.le_total t l.length with h1 | h1
  · have := cs_stay h (l.length - t)
    rw [show t + (l.length - t) = l.length by omega] at this
    exact this.symm
  · have := cs_stay (l := l) (t := l.length) (by rw [wk_end]; omega) (t - l.length)
    rw [show l.length + (t - l.length) = t by omega] at this
    exact this
/-- the next one is the one that is told next -/
theorem cs_at {l : List Int} {t : Nat} (h : wk l t < l.length) (hc : cpn l (wk l t) ≠ 0) : (cs l t).length < (cps l).length ∧ (cps l).getD (cs l t).length 0 = wk l t ∧ (cs l (t + 1)).length = (cs l t).length + 1 := by
  have h1 : cs l (t + 1) = cs l t ++ [wk l t] := by rw [cs_succ, if_pos ⟨h, hc⟩]
  have h3 : t < l.length := by
    rcases Nat.lt_or_ge t l.length with h2 | h2
    · exact h2
    · have := wk_mono l l.length (t - l.length)
      rw [show l.length + (t - l.length) = t by omega, wk_end] at this
      omega
  obtain ⟨r, h2⟩ := cs_pre l (t + 1) (l.length - (t + 1))
  rw [show t + 1 + (l.length - (t + 1)) = l.length by omega, h1] at h2
  have h4 : cps l = cs l t ++ ([wk l t] ++ r) := by unfold cps; rw [h2, List.append_assoc]
  refine ⟨by rw [h4]; simp, ?_, by rw [h1]; simp⟩
  rw [h4, List.getD_eq_getElem?_getD, List.getElem?_append_right (Nat.le_refl _), Nat.sub_self]
  rfl
theorem cs_skip {l : List Int} {t : Nat} (hc : cpn l (wk l t) = 0) : cs l (t + 1) = cs l t := by rw [cs_succ, if_neg (fun h => h.2 hc)]
/-- where the last copy ends -/
def bh (l : List Int) (k : Nat) : Nat := match k with
  | 0 => 0
  | k + 1 => (cps l).getD k 0 + cpn l ((cps l).getD k 0)
theorem bh_le {l : List Int} {t : Nat} : bh l (cs l t).length ≤ wk l t := by
  induction t with
  | zero => exact Nat.le_refl _
  | succ t ih =>
    rcases Nat.lt_or_ge (wk l t) l.length with h | h
    · by_cases hc : cpn l (wk l t) = 0
      · rw [cs_skip hc, wk_succ, if_pos h, if_pos hc]; omega
      · obtain ⟨-, h1, h2⟩ := cs_at h hc
        rw [h2, bh, h1, wk_succ, if_pos h, if_neg hc]
        exact Nat.le_refl _
    · rw [cs_succ, if_neg (fun h1 => by omega), wk_succ, if_neg (by omega)]; exact ih
theorem bh_at {l : List Int} {t : Nat} (h : wk l t < l.length) (hc : cpn l (wk l t) ≠ 0) : bh l (cs l (t + 1)).length = wk l (t + 1) := by
  obtain ⟨-, h1, h2⟩ := cs_at h hc
  rw [h2, bh, h1, wk_succ, if_pos h, if_neg hc]
/-- each one's place: behind the one ahead of it, and within the bytes -/
theorem cps_at {l : List Int} {k : Nat} (h : k < (cps l).length) : ∃ t, (cs l t).length = k ∧ wk l t < l.length ∧ cpn l (wk l t) ≠ 0 ∧ (cps l).getD k 0 = wk l t := by
  have key : ∀ T, k < (cs l T).length → ∃ t, (cs l t).length = k ∧ wk l t < l.length ∧ cpn l (wk l t) ≠ 0 ∧ (cps l).getD k 0 = wk l t := by
    intro T
    induction T with
    | zero => intro h; simp [cs] at h
    | succ T ih =>
      intro h
      rcases Nat.lt_or_ge k (cs l T).length with h1 | h1
      · exact ih h1
      · by_cases h2 : wk l T < l.length ∧ cpn l (wk l T) ≠ 0
        · obtain ⟨-, h3, h4⟩ := cs_at h2.1 h2.2
          obtain rfl : k = (cs l T).length := by omega
          exact ⟨T, rfl, h2.1, h2.2, h3⟩
        · rw [cs_succ, if_neg h2] at h; omega
  exact key l.length h
theorem cps_spec {l : List Int} {k : Nat} (h : k < (cps l).length) : bh l k ≤ (cps l).getD k 0 ∧ (cps l).getD k 0 < l.length ∧ cpn l ((cps l).getD k 0) ≠ 0 := by
  obtain ⟨t, h1, h2, h3, h4⟩ := cps_at h
  rw [h4]
  exact ⟨by rw [← h1]; exact bh_le, h2, h3⟩
theorem bh_end {l : List Int} {k : Nat} (h : k ≤ (cps l).length) : bh l k ≤ l.length := by
  cases k with
  | zero => exact Nat.zero_le _
  | succ k =>
    have := cps_spec (l := l) (k := k) (by omega)
    exact (cpn_spec this.2.2).2.2.1
end Sqm
