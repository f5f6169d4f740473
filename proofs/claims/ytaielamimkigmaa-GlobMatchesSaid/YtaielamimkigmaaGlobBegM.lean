/-
  What matches may begin as it does: mathematics.
-/
import Derived.Test.YtaielamimkigmaaGlobLawA
namespace Globm
theorem mt_all {α : Type} {l : List (Mk α)} {s : List α} (h : Mt l s) : ∀ (i : Nat) (S : α → Bool), l[i]? = some (Mk.one S) → ∃ x ∈ s, S x = true := by
  induction h with
  | nil => intro i S hi; simp at hi
  | @one S x l s h0 h ih =>
    intro i S' hi
    cases i with
    | zero =>
      simp only [List.getElem?_cons_zero, Option.some.injEq, Mk.one.injEq] at hi
      subst hi
      exact ⟨x, by simp, h0⟩
    | succ i =>
      simp only [List.getElem?_cons_succ] at hi
      obtain ⟨y, hy, h2⟩ := ih i S' hi
      exact ⟨y, by simp [hy], h2⟩
  | @many l t s h ih =>
    intro i S' hi
    cases i with
    | zero => simp at hi
    | succ i =>
      simp only [List.getElem?_cons_succ] at hi
      obtain ⟨y, hy, h2⟩ := ih i S' hi
      exact ⟨y, by simp [hy], h2⟩
theorem mt_cut {α : Type} {l : List (Mk α)} {s : List α} (h : Mt l s) : ∀ k, k ≤ s.length → ∃ j, j ≤ l.length ∧ Mt (l.take j) (s.take k) ∧ (j = l.length ∨ ∃ S, l[j]? = some (.one S)) := by
  induction h with
  | nil => intro k _; exact ⟨0, Nat.le_refl _, by simp; exact .nil, .inl rfl⟩
  | @one S x l s h0 h ih =>
    intro k hk
    cases k with
    | zero => exact ⟨0, Nat.zero_le _, by simp; exact .nil, .inr ⟨S, rfl⟩⟩
    | succ k =>
      obtain ⟨j, h1, h2, h3⟩ := ih k (by simpa using hk)
      refine ⟨j + 1, by simp; omega, ?_, ?_⟩
      · rw [List.take_succ_cons, List.take_succ_cons]; exact .one h0 h2
      · rcases h3 with h3 | ⟨S', h3⟩
        · left; simp [h3]
        · right; exact ⟨S', by simpa using h3⟩
  | @many l t s h ih =>
    intro k hk
    obtain ⟨j, h1, h2, h3⟩ := ih (k - t.length) (by simp at hk; omega)
    refine ⟨j + 1, by simp; omega, ?_, ?_⟩
    · rw [List.take_succ_cons, List.take_append]; exact .many h2
    · rcases h3 with h3 | ⟨S', h3⟩
      · left; simp [h3]
      · right; exact ⟨S', by simpa using h3⟩
end Globm
namespace Go.Proofs.Ytaielamimkigmaa
open Go.RowKit Go.ChangeShapes Globm Go.ChangeMaps

theorem cv_mt {α : Type} {l : List (Mk α)} {s : List α} : cv l s (fun _ => false) 0 0 = true ↔ Mt l s := cov_match l s
theorem bz_many : bz .many = false := rfl
/-- what stands for a byte is not barren -/
theorem bz_one {S : Nat → Bool} {b : Nat} (hb : b < 256) (h : S b = true) : bz (.one S) = false := by
  rcases hz : bz (.one S) with _ | _
  · rfl
  · exfalso
    unfold bz at hz
    simp only [Mk.run, ps, Bool.not_false, Bool.true_and, Bool.and_eq_true, beq_iff_eq] at hz
    obtain ⟨h0, h1, h2, h3⟩ := hz
    have := (wj_empty (P := S)).1 ⟨by omega, by omega, by omega, by omega⟩ b hb
    rw [h] at this; cases this
theorem fits_bar {t x : ByteArray} (h : fitsT t x = true) : barT t = false := by
  unfold fitsT at h
  unfold barT
  rcases hm : marks (by8 t) with _ | m
  · rfl
  · rw [hm] at h
    have hmt := cv_mt.1 h
    show m.any bz = false
    rw [List.any_eq_false]
    intro y hy
    obtain ⟨i, hi⟩ := List.getElem?_of_mem hy
    cases y with
    | many => rw [bz_many]; simp
    | one S =>
      obtain ⟨b, hb, h2⟩ := mt_all hmt i S hi
      rw [bz_one (by8_lt hb) h2]; simp
theorem any_text {t : ByteArray} (h : isAny t = true) : t = ⟨#[42, 42]⟩ := by
  unfold isAny at h
  rw [ByteArray.toList_eq] at h
  obtain ⟨⟨l⟩⟩ := t
  have : l = [42, 42] := by simpa using h
  subst this; rfl
theorem any_bar0 : barT ⟨#[42, 42]⟩ = false := by decide +kernel
theorem any_bar {t : ByteArray} (h : isAny t = true) : barT t = false := by rw [any_text h]; exact any_bar0
theorem begins {L names : List ByteArray} (h : cv (L.map pk) names (fun _ => false) 0 0 = true) {k : Nat} (hk : k ≤ names.length) : cv (L.map pk) (names.take k) (beyT L) 0 0 = true := by
  have hm := cv_mt.1 h
  obtain ⟨j, h1, h2, h3⟩ := mt_cut hm k hk
  show cov (L.map pk) (names.take k) (beyT L) ((L.map pk).length - 0) 0 = true
  rw [Nat.sub_zero]
  refine (cov_iff _ _ _ _ 0 (Nat.le_refl _) (Nat.zero_le _)).2 ?_
  rw [Nat.sub_self]
  refine ⟨j, Nat.zero_le _, h1, by simpa using h2, ?_⟩
  rcases h3 with h3 | ⟨S, h3⟩
  · exact .inl h3
  · refine .inr ⟨S, h3, ?_⟩
    unfold beyT
    rw [Bool.not_eq_true', List.any_eq_false]
    intro t ht
    obtain ⟨i, hi⟩ := List.getElem?_of_mem (List.mem_of_mem_drop ht)
    have hp : (L.map pk)[i]? = some (pk t) := by rw [List.getElem?_map, hi]; rfl
    rcases hA : isAny t with _ | _
    · have : pk t = .one (fitsT t) := by unfold pk; rw [hA]; rfl
      rw [this] at hp
      obtain ⟨x, _, hx⟩ := mt_all hm i _ hp
      rw [fits_bar hx]; simp
    · rw [any_bar hA]; simp
end Go.Proofs.Ytaielamimkigmaa
