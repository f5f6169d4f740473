/-
  Copies: the longest one at a place, by trying each distance and by rows of places. Nothing of the program stands here.
-/
import Derived.Test.YtaohkakefdhecaaSqMath
namespace Sqm

/-- how many things are alike from two places on, at most so many -/
def al (l : List Int) (p q : Nat) : Nat → Nat
  | 0 => 0
  | m + 1 => if al l p q m = m ∧ l.getD (p + m) 0 = l.getD (q + m) 0 then m + 1 else al l p q m
theorem al_le (l : List Int) (p q : Nat) : ∀ m, al l p q m ≤ m
  | 0 => Nat.le_refl _
  | m + 1 => by have := al_le l p q m; unfold al; split <;> omega
theorem al_succ {l : List Int} {p q m : Nat} (h : al l p q m = m) (e : l.getD (p + m) 0 = l.getD (q + m) 0) : al l p q (m + 1) = m + 1 := by rw [al, if_pos ⟨h, e⟩]
theorem al_part {l : List Int} {p q : Nat} : ∀ {m j : Nat}, al l p q m = m → j ≤ m → al l p q j = j
  | 0, j, _, hj => by obtain rfl : j = 0 := by omega
                      rfl
  | m + 1, j, h, hj => by
    have hm : al l p q m = m := by
      unfold al at h
      split at h
      · rename_i h1; exact h1.1
      · have := al_le l p q m; omega
    rcases (by omega : j = m + 1 ∨ j ≤ m) with rfl | h1
    · exact h
    · exact al_part hm h1
theorem al_eq {l : List Int} {p q m : Nat} (h : al l p q m = m) {j : Nat} (hj : j < m) : l.getD (p + j) 0 = l.getD (q + j) 0 := by
  have h1 := al_part h (show j + 1 ≤ m from hj)
  rw [al] at h1
  split at h1
  · rename_i h2; exact h2.2
  · have := al_le l p q j; omega
theorem al_stop {l : List Int} {p q n : Nat} (h : al l p q n = n) (e : l.getD (p + n) 0 ≠ l.getD (q + n) 0) : ∀ d, al l p q (n + d) = n
  | 0 => h
  | d + 1 => by
    show al l p q (n + d + 1) = n
    have ih := al_stop h e d
    rw [al, if_neg, ih]
    rintro ⟨h1, h2⟩
    have : d = 0 := by omega
    subst this
    exact e h2
theorem al_stop' {l : List Int} {p q n m : Nat} (h : al l p q n = n) (e : l.getD (p + n) 0 ≠ l.getD (q + n) 0) (hm : n ≤ m) : al l p q m = n := by
  have := al_stop h e (m - n)
  rwa [show n + (m - n) = m by omega] at this
/-- three bytes -/
def thr (l : List Int) (p : Nat) : Int × Int × Int := (l.getD p 0, l.getD (p + 1) 0, l.getD (p + 2) 0)
theorem al_thr {l : List Int} {p q m : Nat} (hm : 3 ≤ m) : 3 ≤ al l p q m ↔ thr l p = thr l q := by
  unfold thr
  constructor
  · intro h
    have hk : ∀ m, al l p q (al l p q m) = al l p q m := by
      intro m
      induction m with
      | zero => rfl
      | succ m ih =>
        rw [al]
        split
        · rename_i h1
          rw [al, if_pos h1]
        · exact ih
    have h3 := al_part (hk m) h
    have e0 := al_eq h3 (j := 0) (by omega)
    have e1 := al_eq h3 (j := 1) (by omega)
    have e2 := al_eq h3 (j := 2) (by omega)
    rw [Nat.add_zero, Nat.add_zero] at e0
    rw [e0, e1, e2]
  · intro h
    injection h with e0 h
    injection h with e1 e2
    have a0 : al l p q 0 = 0 := rfl
    have a1 := al_succ a0 e0
    have a2 := al_succ a1 e1
    have a3 := al_succ a2 e2
    have mono : ∀ d, 3 ≤ al l p q (3 + d) := by
      intro d
      induction d with
      | zero => rw [Nat.add_zero, a3]; omega
      | succ d ih =>
        show 3 ≤ al l p q (3 + d + 1)
        rw [al]; split <;> omega
    have := mono (m - 3)
    rwa [show 3 + (m - 3) = m by omega] at this

/-- the most that a copy at a place may have -/
def mx (l : List Int) (k : Nat) : Nat := min 130 (l.length - k)
/-- the longest copy of the first so many distances, and its distance -/
def bst (l : List Int) (k : Nat) : Nat → Nat × Nat
  | 0 => (0, 0)
  | d + 1 => if 3 ≤ al l (k - (d + 1)) k (mx l k) ∧ (bst l k d).1 < al l (k - (d + 1)) k (mx l k) then (al l (k - (d + 1)) k (mx l k), d + 1) else bst l k d
def cpn (l : List Int) (k : Nat) : Nat := (bst l k (min 4096 k)).1
def cpd (l : List Int) (k : Nat) : Nat := (bst l k (min 4096 k)).2
theorem bst_le (l : List Int) (k : Nat) : ∀ d, (bst l k d).1 ≤ mx l k
  | 0 => Nat.zero_le _
  | d + 1 => by
    unfold bst
    split
    · exact al_le _ _ _ _
    · exact bst_le l k d
theorem bst_full {l : List Int} {k d : Nat} (h : (bst l k d).1 = mx l k) : ∀ j, bst l k (d + j) = bst l k d
  | 0 => rfl
  | j + 1 => by
    show bst l k (d + j + 1) = _
    have ih := bst_full h j
    rw [bst, if_neg, ih]
    rintro ⟨-, h2⟩
    rw [ih, h] at h2
    have := al_le l (k - (d + j + 1)) k (mx l k)
    omega
/-- a copy that there is -/
theorem bst_spec {l : List Int} {k : Nat} : ∀ d, (bst l k d).1 = 0 ∧ (bst l k d).2 = 0 ∨ 3 ≤ (bst l k d).1 ∧ 1 ≤ (bst l k d).2 ∧ (bst l k d).2 ≤ d ∧ al l (k - (bst l k d).2) k (bst l k d).1 = (bst l k d).1
  | 0 => .inl ⟨rfl, rfl⟩
  | d + 1 => by
    unfold bst
    split
    · rename_i h
      refine .inr ⟨h.1, by simp, Nat.le_refl _, ?_⟩
      show al l (k - (d + 1)) k (al l (k - (d + 1)) k (mx l k)) = al l (k - (d + 1)) k (mx l k)
      generalize mx l k = m
      induction m with
      | zero => rfl
      | succ m ih =>
        rw [al]
        split
        · rename_i h1
          rw [al, if_pos h1]
        · exact ih
    · rcases bst_spec (l := l) (k := k) d with h | ⟨h1, h2, h3, h4⟩
      · exact .inl h
      · exact .inr ⟨h1, h2, by omega, h4⟩
theorem cpn_small {l : List Int} {k : Nat} (h : l.length < k + 3) : cpn l k = 0 := by
  unfold cpn
  have h1 := bst_le l k (min 4096 k)
  have h2 : mx l k < 3 := by unfold mx; omega
  rcases bst_spec (l := l) (k := k) (min 4096 k) with h3 | h3
  · exact h3.1
  · omega
theorem cpn_spec {l : List Int} {k : Nat} (h : cpn l k ≠ 0) : 3 ≤ cpn l k ∧ cpn l k ≤ 130 ∧ k + cpn l k ≤ l.length ∧ 1 ≤ cpd l k ∧ cpd l k ≤ 4096 ∧ cpd l k ≤ k ∧ al l (k - cpd l k) k (cpn l k) = cpn l k := by
  have h1 := bst_le l k (min 4096 k)
  unfold cpn cpd at *
  rcases bst_spec (l := l) (k := k) (min 4096 k) with h3 | ⟨h3, h4, h5, h6⟩
  · exact absurd h3.1 h
  · unfold mx at h1
    exact ⟨h3, by omega, by omega, h4, by omega, by omega, h6⟩

/-- the places ahead of one where three bytes stand -/
def rowOf (l : List Int) (x : Int × Int × Int) : Nat → List Nat
  | 0 => []
  | q + 1 => if thr l q = x then rowOf l x q ++ [q] else rowOf l x q
theorem row_succ (l : List Int) (x : Int × Int × Int) (q : Nat) : rowOf l x (q + 1) = if thr l q = x then rowOf l x q ++ [q] else rowOf l x q := rfl
theorem row_mem {l : List Int} {x : Int × Int × Int} : ∀ {q p : Nat}, p ∈ rowOf l x q → p < q ∧ thr l p = x
  | 0, p, h => by simp [rowOf] at h
  | q + 1, p, h => by
    unfold rowOf at h
    split at h
    · rename_i he
      rcases List.mem_append.1 h with h1 | h1
      · have := row_mem h1; exact ⟨by omega, this.2⟩
      · rw [List.mem_singleton.1 h1]; exact ⟨by omega, he⟩
    · have := row_mem h; exact ⟨by omega, this.2⟩
theorem row_pre {l : List Int} {x : Int × Int × Int} {q : Nat} : ∀ d, ∃ t, rowOf l x (q + d) = rowOf l x q ++ t ∧ ∀ p ∈ t, q ≤ p
  | 0 => ⟨[], by simp, by simp⟩
  | d + 1 => by
    obtain ⟨t, h1, h2⟩ := row_pre (l := l) (x := x) (q := q) d
    have hs := row_succ l x (q + d)
    show ∃ t, rowOf l x (q + d + 1) = _ ∧ _
    rw [hs]
    split
    · refine ⟨t ++ [q + d], by rw [h1, List.append_assoc], fun p hp => ?_⟩
      rcases List.mem_append.1 hp with h3 | h3
      · exact h2 p h3
      · rw [List.mem_singleton.1 h3]; omega
    · exact ⟨t, h1, h2⟩
/-- the row rises: how many stand ahead of a place -/
theorem row_lt {l : List Int} {x : Int × Int × Int} {q Q i : Nat} (hq : q ≤ Q) (hi : i < (rowOf l x Q).length) : (rowOf l x Q)[i] < q ↔ i < (rowOf l x q).length := by
  obtain ⟨t, h1, h2⟩ := row_pre (l := l) (x := x) (q := q) (Q - q)
  rw [show q + (Q - q) = Q by omega] at h1
  constructor
  · intro h
    rcases Nat.lt_or_ge i (rowOf l x q).length with h3 | h3
    · exact h3
    · have hi' : i < (rowOf l x q ++ t).length := by rw [← h1]; exact hi
      have e : (rowOf l x Q)[i] = (rowOf l x q ++ t)[i] := by congr 1
      rw [e, List.getElem_append_right h3] at h
      have := h2 _ (List.getElem_mem (by rw [List.length_append] at hi'; omega : i - (rowOf l x q).length < t.length))
      omega
  · intro h
    have hi' : i < (rowOf l x q ++ t).length := by rw [← h1]; exact hi
    have e : (rowOf l x Q)[i] = (rowOf l x q ++ t)[i] := by congr 1
    rw [e, List.getElem_append_left h]
    exact (row_mem (List.getElem_mem h)).1
theorem row_len_mono {l : List Int} {x : Int × Int × Int} {q Q : Nat} (hq : q ≤ Q) : (rowOf l x q).length ≤ (rowOf l x Q).length := by
  obtain ⟨t, h1, -⟩ := row_pre (l := l) (x := x) (q := q) (Q - q)
  rw [show q + (Q - q) = Q by omega] at h1
  rw [h1, List.length_append]; omega

theorem row_ltD {l : List Int} {x : Int × Int × Int} {q Q i : Nat} (hq : q ≤ Q) (hi : i < (rowOf l x Q).length) : (rowOf l x Q).getD i 0 < q ↔ i < (rowOf l x q).length := by
  have := row_lt hq hi
  rwa [show (rowOf l x Q)[i] = (rowOf l x Q).getD i 0 by rw [List.getD_eq_getElem?_getD, List.getElem?_eq_getElem hi]; rfl] at this
theorem row_ltQ {l : List Int} {x : Int × Int × Int} {Q i : Nat} (hi : i < (rowOf l x Q).length) : (rowOf l x Q).getD i 0 < Q := (row_ltD (Nat.le_refl Q) hi).2 hi

/-- what is the best of a row's last so many -/
def lg (l : List Int) (k : Nat) (r : List Nat) : Nat → Nat × Nat
  | 0 => (0, 0)
  | j + 1 => if (lg l k r j).1 < al l (r.getD (r.length - 1 - j) 0) k (mx l k) then (al l (r.getD (r.length - 1 - j) 0) k (mx l k), k - r.getD (r.length - 1 - j) 0) else lg l k r j
theorem lg_bst {l : List Int} {k : Nat} (h3 : k + 3 ≤ l.length) : ∀ d, d ≤ k → lg l k (rowOf l (thr l k) k) ((rowOf l (thr l k) k).length - (rowOf l (thr l k) (k - d)).length) = bst l k d := by
  have hm : 3 ≤ mx l k := by unfold mx; omega
  intro d
  induction d with
  | zero => intro _; rw [Nat.sub_zero, Nat.sub_self]; rfl
  | succ d ih =>
    intro hd
    have ih := ih (by omega)
    obtain ⟨q, hq⟩ : ∃ q, k - (d + 1) = q := ⟨_, rfl⟩
    have hq1 : k - d = q + 1 := by omega
    rw [hq1] at ih
    rw [hq, bst, hq]
    by_cases he : thr l q = thr l k
    · have hr : (rowOf l (thr l k) (q + 1)).length = (rowOf l (thr l k) q).length + 1 := by
        rw [rowOf, if_pos he, List.length_append]; rfl
      have hle := row_len_mono (l := l) (x := thr l k) (show q + 1 ≤ k by omega)
      rw [hr] at ih hle
      have h3a := (al_thr (l := l) (p := q) (q := k) hm).2 he
      have hidx : (rowOf l (thr l k) k).getD (rowOf l (thr l k) q).length 0 = q := by
        obtain ⟨t, h1, -⟩ := row_pre (l := l) (x := thr l k) (q := q + 1) (k - (q + 1))
        rw [show q + 1 + (k - (q + 1)) = k by omega] at h1
        rw [h1, rowOf, if_pos he, List.append_assoc, List.getD_eq_getElem?_getD, List.getElem?_append_right (Nat.le_refl _), Nat.sub_self]
        rfl
      rw [show (rowOf l (thr l k) k).length - (rowOf l (thr l k) q).length = ((rowOf l (thr l k) k).length - ((rowOf l (thr l k) q).length + 1)) + 1 by omega, lg,
        show (rowOf l (thr l k) k).length - 1 - ((rowOf l (thr l k) k).length - ((rowOf l (thr l k) q).length + 1)) = (rowOf l (thr l k) q).length by omega, hidx, ih]
      rw [show k - q = d + 1 by omega]
      by_cases hlt : (bst l k d).1 < al l q k (mx l k)
      · rw [if_pos hlt, if_pos ⟨h3a, hlt⟩]
      · rw [if_neg hlt, if_neg (fun h => hlt h.2)]
    · have hr : rowOf l (thr l k) (q + 1) = rowOf l (thr l k) q := by rw [rowOf, if_neg he]
      rw [hr] at ih
      rw [ih, if_neg]
      rintro ⟨h1, -⟩
      exact he ((al_thr hm).1 h1)
/-- where it may be left: by a place that is too far, or by a copy that is as long as any -/
theorem lg_far {l : List Int} {k j : Nat} (h3 : k + 3 ≤ l.length) (hj : j ≤ (rowOf l (thr l k) k).length) (hprev : ∀ i, i < j → k - (rowOf l (thr l k) k).getD ((rowOf l (thr l k) k).length - 1 - i) 0 ≤ 4096)
    (hfar : j < (rowOf l (thr l k) k).length → 4096 < k - (rowOf l (thr l k) k).getD ((rowOf l (thr l k) k).length - 1 - j) 0) : lg l k (rowOf l (thr l k) k) j = (cpn l k, cpd l k) := by
  obtain ⟨r, hr⟩ : ∃ r, rowOf l (thr l k) k = r := ⟨_, rfl⟩
  rw [hr] at hj hprev hfar ⊢
  have hq : (rowOf l (thr l k) (k - min 4096 k)).length = r.length - j := by
    apply Nat.le_antisymm
    · rcases Nat.lt_or_ge (r.length - j) (rowOf l (thr l k) (k - min 4096 k)).length with h | h
      · exfalso
        have hjp : 0 < j := by
          have := row_len_mono (l := l) (x := thr l k) (show k - min 4096 k ≤ k by omega)
          rw [hr] at this; omega
        have hi : r.length - j < (rowOf l (thr l k) k).length := by rw [hr]; omega
        have := (row_ltD (l := l) (x := thr l k) (show k - min 4096 k ≤ k by omega) hi).2 h
        have h1 := hprev (j - 1) (by omega)
        rw [hr] at this
        rw [show r.length - 1 - (j - 1) = r.length - j by omega] at h1
        omega
      · exact h
    · rcases (by omega : j = r.length ∨ j < r.length) with rfl | h
      · omega
      · have h1 := hfar h
        have hi : r.length - 1 - j < (rowOf l (thr l k) k).length := by rw [hr]; omega
        have := (row_ltD (l := l) (x := thr l k) (show k - min 4096 k ≤ k by omega) hi).1 (by rw [hr]; omega)
        omega
  have := lg_bst h3 (min 4096 k) (by omega)
  rw [hr, hq, show r.length - (r.length - j) = j by omega] at this
  rw [this]; rfl
theorem lg_full {l : List Int} {k j : Nat} (h3 : k + 3 ≤ l.length) (hj : j < (rowOf l (thr l k) k).length) (hnear : k - (rowOf l (thr l k) k).getD ((rowOf l (thr l k) k).length - 1 - j) 0 ≤ 4096)
    (hfull : (lg l k (rowOf l (thr l k) k) j).1 = mx l k) : lg l k (rowOf l (thr l k) k) j = (cpn l k, cpd l k) := by
  obtain ⟨r, hr⟩ : ∃ r, rowOf l (thr l k) k = r := ⟨_, rfl⟩
  obtain ⟨p, hp⟩ : ∃ p, r.getD (r.length - 1 - j) 0 = p := ⟨_, rfl⟩
  rw [hr] at hj hnear hfull ⊢
  rw [hp] at hnear
  have hi : r.length - 1 - j < (rowOf l (thr l k) k).length := by rw [hr]; omega
  have e : (rowOf l (thr l k) k).getD (r.length - 1 - j) 0 = p := by rw [hr]; exact hp
  have hpk : p < k := by have := row_ltQ hi; omega
  have h1 := (row_ltD (l := l) (x := thr l k) (show p + 1 ≤ k by omega) hi).1 (by omega)
  have h2 : ¬ p < p := Nat.lt_irrefl _
  have h4 : ¬ (r.length - 1 - j < (rowOf l (thr l k) p).length) := fun h => h2 (by have := (row_ltD (l := l) (x := thr l k) (show p ≤ k by omega) hi).2 h; omega)
  have h5 : (rowOf l (thr l k) (p + 1)).length ≤ (rowOf l (thr l k) p).length + 1 := by
    rw [rowOf]; split
    · rw [List.length_append]; simp
    · omega
  have hq : (rowOf l (thr l k) (k - (k - (p + 1)))).length = r.length - j := by
    rw [show k - (k - (p + 1)) = p + 1 by omega]; omega
  have h6 := lg_bst h3 (k - (p + 1)) (by omega)
  rw [hr, hq, show r.length - (r.length - j) = j by omega] at h6
  rw [h6] at hfull ⊢
  have h7 := bst_full hfull (min 4096 k - (k - (p + 1)))
  rw [show k - (p + 1) + (min 4096 k - (k - (p + 1))) = min 4096 k by omega] at h7
  rw [← h7]; rfl
end Sqm
