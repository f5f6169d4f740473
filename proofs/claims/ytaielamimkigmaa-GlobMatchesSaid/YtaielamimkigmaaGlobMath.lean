/-
  Rows of marks that are laid over rows of things: what it is to match, piece by piece from the left, from the right, and what may follow. Nothing of the program stands here.
-/
namespace Globm

/-- a mark: it stands for any stretch, or for one thing of a set -/
inductive Mk (α : Type) where
  | many : Mk α
  | one : (α → Bool) → Mk α
def Mk.run {α : Type} : Mk α → Bool
  | .many => true
  | .one _ => false
def Mk.fits {α : Type} : Mk α → α → Bool
  | .many, _ => false
  | .one S, x => S x

/-- marks match things -/
inductive Mt {α : Type} : List (Mk α) → List α → Prop
  | nil : Mt [] []
  | one {S : α → Bool} {x : α} {l : List (Mk α)} {s : List α} : S x = true → Mt l s → Mt (.one S :: l) (x :: s)
  | many {l : List (Mk α)} {t s : List α} : Mt l s → Mt (.many :: l) (t ++ s)

section
variable {α : Type}
theorem mt_nil {s : List α} : Mt ([] : List (Mk α)) s ↔ s = [] := ⟨fun h => by cases h; rfl, fun h => by subst h; exact .nil⟩
theorem mt_one {S : α → Bool} {l : List (Mk α)} {s : List α} : Mt (.one S :: l) s ↔ ∃ x t, s = x :: t ∧ S x = true ∧ Mt l t :=
  ⟨fun h => by cases h with | one h1 h2 => exact ⟨_, _, rfl, h1, h2⟩, fun ⟨_, _, e, h1, h2⟩ => by subst e; exact .one h1 h2⟩
theorem mt_many {l : List (Mk α)} {s : List α} : Mt (.many :: l) s ↔ ∃ t u, s = t ++ u ∧ Mt l u :=
  ⟨fun h => by cases h with | many h1 => exact ⟨_, _, rfl, h1⟩, fun ⟨_, _, e, h1⟩ => by subst e; exact .many h1⟩
theorem mt_many_drop {l : List (Mk α)} {s : List α} : Mt (.many :: l) s ↔ ∃ d, d ≤ s.length ∧ Mt l (s.drop d) := by
  rw [mt_many]
  constructor
  · rintro ⟨t, u, rfl, h⟩
    exact ⟨t.length, by simp, by simpa using h⟩
  · rintro ⟨d, _, h⟩
    exact ⟨s.take d, s.drop d, (List.take_append_drop d s).symm, h⟩
theorem mt_append {l m : List (Mk α)} {s : List α} : Mt (l ++ m) s ↔ ∃ t u, s = t ++ u ∧ Mt l t ∧ Mt m u := by
  induction l generalizing s with
  | nil =>
    constructor
    · intro h; exact ⟨[], s, rfl, .nil, h⟩
    · rintro ⟨t, u, rfl, h, h2⟩; cases h; exact h2
  | cons a l ih =>
    cases a with
    | many =>
      rw [List.cons_append, mt_many]
      constructor
      · rintro ⟨t, u, rfl, h⟩
        obtain ⟨t2, u2, rfl, h1, h2⟩ := ih.1 h
        exact ⟨t ++ t2, u2, by rw [List.append_assoc], .many h1, h2⟩
      · rintro ⟨t, u, rfl, h, h2⟩
        obtain ⟨t1, t2, rfl, h1⟩ := mt_many.1 h
        exact ⟨t1, t2 ++ u, by rw [List.append_assoc], ih.2 ⟨t2, u, rfl, h1, h2⟩⟩
    | one S =>
      rw [List.cons_append, mt_one]
      constructor
      · rintro ⟨x, t, rfl, h0, h⟩
        obtain ⟨t2, u2, rfl, h1, h2⟩ := ih.1 h
        exact ⟨x :: t2, u2, rfl, .one h0 h1, h2⟩
      · rintro ⟨t, u, rfl, h, h2⟩
        obtain ⟨x, t2, rfl, h0, h1⟩ := mt_one.1 h
        exact ⟨x, t2 ++ u, rfl, h0, ih.2 ⟨t2, u, rfl, h1, h2⟩⟩

/-- from the right: a mark more, a thing more -/
theorem mt_snoc_one_nil {S : α → Bool} {l : List (Mk α)} : ¬ Mt (l ++ [.one S]) [] := by
  rw [mt_append]
  rintro ⟨t, u, e, -, h⟩
  obtain ⟨x, v, rfl, -, -⟩ := mt_one.1 h
  simp at e
theorem mt_snoc_one {S : α → Bool} {l : List (Mk α)} {s : List α} {x : α} : Mt (l ++ [.one S]) (s ++ [x]) ↔ Mt l s ∧ S x = true := by
  rw [mt_append]
  constructor
  · rintro ⟨t, u, e, h1, h⟩
    obtain ⟨y, v, rfl, h0, h2⟩ := mt_one.1 h
    obtain rfl := mt_nil.1 h2
    obtain ⟨rfl, h3⟩ := List.append_inj' e rfl
    injection h3 with h3
    subst h3
    exact ⟨h1, h0⟩
  · rintro ⟨h1, h0⟩
    exact ⟨s, [x], rfl, h1, .one h0 .nil⟩
theorem mt_snoc_many_nil {l : List (Mk α)} : Mt (l ++ [.many]) [] ↔ Mt l [] := by
  rw [mt_append]
  constructor
  · rintro ⟨t, u, e, h1, -⟩
    have : t = [] := by cases t; rfl; cases e
    subst this; exact h1
  · intro h; exact ⟨[], [], rfl, h, mt_many.2 ⟨[], [], rfl, .nil⟩⟩
theorem mt_snoc_many {l : List (Mk α)} {s : List α} {x : α} : Mt (l ++ [.many]) (s ++ [x]) ↔ Mt l (s ++ [x]) ∨ Mt (l ++ [.many]) s := by
  have all : ∀ u : List α, Mt [Mk.many] u := fun u => mt_many.2 ⟨u, [], by simp, .nil⟩
  rw [mt_append, mt_append]
  constructor
  · rintro ⟨t, u, e, h1, -⟩
    rcases List.eq_nil_or_concat u with rfl | ⟨v, y, e2⟩
    · left; rw [e, List.append_nil]; exact h1
    · right
      obtain rfl : u = v ++ [y] := by rw [e2]; first | rfl | exact List.concat_eq_append ..
      rw [← List.append_assoc] at e
      obtain ⟨e1, -⟩ := List.append_inj' e rfl
      exact ⟨t, v, e1, h1, all v⟩
  · rintro (h | ⟨t, u, rfl, h1, -⟩)
    · exact ⟨s ++ [x], [], by simp, h, all []⟩
    · exact ⟨t, u ++ [x], by rw [List.append_assoc], h1, all _⟩

/-- a row of marks laid over things, with what may stand behind them: the pieces from i on over the things from k on -/
def cov (l : List (Mk α)) (s : List α) (beyond : Nat → Bool) : Nat → Nat → Bool
  | 0, k => k == s.length
  | r + 1, k => match l[l.length - (r + 1)]? with
    | none => false
    | some .many => (List.range (s.length + 1 - k)).any (fun d => cov l s beyond r (k + d))
    | some (.one S) => match s[k]? with
      | none => beyond (l.length - (r + 1))
      | some x => S x && cov l s beyond r (k + 1)

/-- a run that ends nowhere from a place on ends nowhere from a later one on -/
theorem cov_vain {l : List (Mk α)} {s : List α} {beyond : Nat → Bool} {r k k' : Nat} (hl : l[l.length - (r + 1)]? = some .many) (h : cov l s beyond (r + 1) k = false) (hk : k ≤ k') : cov l s beyond (r + 1) k' = false := by
  unfold cov at h ⊢
  rw [hl] at h ⊢
  simp only [List.any_eq_false, List.mem_range] at h ⊢
  intro d hd
  have := h (k' - k + d) (by omega)
  rwa [show k + (k' - k + d) = k' + d by omega] at this
theorem cov_many {l : List (Mk α)} {s : List α} {beyond : Nat → Bool} {r k : Nat} (hl : l[l.length - (r + 1)]? = some .many) : cov l s beyond (r + 1) k = (List.range (s.length + 1 - k)).any (fun d => cov l s beyond r (k + d)) := by
  conv => lhs; unfold cov
  rw [hl]
theorem cov_one {l : List (Mk α)} {s : List α} {beyond : Nat → Bool} {r k : Nat} {S : α → Bool} (hl : l[l.length - (r + 1)]? = some (.one S)) : cov l s beyond (r + 1) k = match s[k]? with
      | none => beyond (l.length - (r + 1))
      | some x => S x && cov l s beyond r (k + 1) := by
  conv => lhs; unfold cov
  rw [hl]

/-- what it comes to: the marks up to some j match the rest of the things, and j is the end, or one thing's mark behind which all may be met -/
def Cv (l : List (Mk α)) (s : List α) (beyond : Nat → Bool) (i k : Nat) : Prop :=
  ∃ j, i ≤ j ∧ j ≤ l.length ∧ Mt ((l.drop i).take (j - i)) (s.drop k) ∧ (j = l.length ∨ ∃ S, l[j]? = some (.one S) ∧ beyond j = true)
theorem drop_cons {β : Type} {l : List β} {i : Nat} {a : β} (h : l[i]? = some a) : l.drop i = a :: l.drop (i + 1) := by
  obtain ⟨hi, rfl⟩ := List.getElem?_eq_some_iff.1 h
  exact List.drop_eq_getElem_cons hi
theorem cov_iff (l : List (Mk α)) (s : List α) (beyond : Nat → Bool) : ∀ r k, r ≤ l.length → k ≤ s.length → (cov l s beyond r k = true ↔ Cv l s beyond (l.length - r) k) := by
  intro r
  induction r with
  | zero =>
    intro k _ hk
    unfold cov Cv
    rw [Nat.sub_zero]
    constructor
    · intro h
      have : k = s.length := by simpa using h
      subst this
      exact ⟨l.length, Nat.le_refl _, Nat.le_refl _, by simp; exact .nil, .inl rfl⟩
    · rintro ⟨j, h1, h2, h3, -⟩
      rw [show j - l.length = 0 by omega, List.take_zero] at h3
      have := mt_nil.1 h3
      have : s.length - k = 0 := by rw [← List.length_drop, this]; rfl
      simp; omega
  | succ r ih =>
    intro k hr hk
    obtain ⟨i, hi⟩ : ∃ i, l.length - (r + 1) = i := ⟨_, rfl⟩
    have hir : l.length - r = i + 1 := by omega
    have hil : i < l.length := by omega
    rcases hm : l[i]? with _ | m
    · rw [List.getElem?_eq_none_iff] at hm; omega
    · have hd := drop_cons hm
      cases m with
      | many =>
        rw [cov_many (by rw [hi]; exact hm), hi]
        unfold Cv
        rw [hd]
        simp only [List.any_eq_true, List.mem_range]
        constructor
        · rintro ⟨d, hd1, h⟩
          obtain ⟨j, h1, h2, h3, h4⟩ := (ih (k + d) (by omega) (by omega)).1 h
          rw [hir] at h1 h3
          refine ⟨j, by omega, h2, ?_, h4⟩
          rw [show j - i = (j - (i + 1)) + 1 by omega, List.take_succ_cons]
          exact mt_many_drop.2 ⟨d, by rw [List.length_drop]; omega, by rw [List.drop_drop]; exact h3⟩
        · rintro ⟨j, h1, h2, h3, h4⟩
          rcases (by omega : j = i ∨ i + 1 ≤ j) with rfl | hj
          · rcases h4 with h4 | ⟨S, h4, -⟩
            · omega
            · rw [hm] at h4; cases h4
          · rw [show j - i = (j - (i + 1)) + 1 by omega, List.take_succ_cons] at h3
            obtain ⟨d, hd1, h⟩ := mt_many_drop.1 h3
            rw [List.length_drop] at hd1
            refine ⟨d, by omega, (ih (k + d) (by omega) (by omega)).2 ⟨j, by omega, h2, ?_, h4⟩⟩
            rw [hir]
            rw [List.drop_drop] at h
            exact h
      | one S =>
        rw [cov_one (by rw [hi]; exact hm), hi]
        rcases hs : s[k]? with _ | x
        · have hks : k = s.length := by rw [List.getElem?_eq_none_iff] at hs; omega
          subst hks
          simp only
          unfold Cv
          rw [hd, List.drop_length]
          constructor
          · intro h
            exact ⟨i, Nat.le_refl _, by omega, by rw [Nat.sub_self, List.take_zero]; exact .nil, .inr ⟨S, hm, h⟩⟩
          · rintro ⟨j, h1, h2, h3, h4⟩
            rcases (by omega : j = i ∨ i + 1 ≤ j) with rfl | hj
            · rcases h4 with h4 | ⟨S, h4, h5⟩
              · omega
              · exact h5
            · rw [show j - i = (j - (i + 1)) + 1 by omega, List.take_succ_cons] at h3
              obtain ⟨y, t, e, -, -⟩ := mt_one.1 h3
              cases e
        · have hsd := drop_cons hs
          have hkl : k < s.length := (List.getElem?_eq_some_iff.1 hs).1
          simp only
          rw [Bool.and_eq_true]
          unfold Cv
          rw [hd, hsd]
          constructor
          · rintro ⟨h0, h⟩
            obtain ⟨j, h1, h2, h3, h4⟩ := (ih (k + 1) (by omega) (by omega)).1 h
            rw [hir] at h1 h3
            refine ⟨j, by omega, h2, ?_, h4⟩
            rw [show j - i = (j - (i + 1)) + 1 by omega, List.take_succ_cons]
            exact .one h0 h3
          · rintro ⟨j, h1, h2, h3, h4⟩
            rcases (by omega : j = i ∨ i + 1 ≤ j) with rfl | hj
            · rw [Nat.sub_self, List.take_zero] at h3
              cases mt_nil.1 h3
            · rw [show j - i = (j - (i + 1)) + 1 by omega, List.take_succ_cons] at h3
              obtain ⟨y, t, e, h0, h⟩ := mt_one.1 h3
              injection e with e1 e2
              subst e1 e2
              exact ⟨h0, (ih (k + 1) (by omega) (by omega)).2 ⟨j, by omega, h2, by rw [hir]; exact h, h4⟩⟩

/-- where nothing may stand behind, it is to match -/
theorem cov_match (l : List (Mk α)) (s : List α) : cov l s (fun _ => false) l.length 0 = true ↔ Mt l s := by
  rw [cov_iff l s _ l.length 0 (Nat.le_refl _) (Nat.zero_le _), Nat.sub_self]
  unfold Cv
  constructor
  · rintro ⟨j, -, -, h3, h4 | ⟨S, -, h⟩⟩
    · subst h4; simpa using h3
    · cases h
  · intro h
    exact ⟨l.length, Nat.zero_le _, Nat.le_refl _, by simpa using h, .inl rfl⟩
end
end Globm
