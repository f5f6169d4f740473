/-
  The document's Match and May: mathematics.
-/
import Derived.Test.YtaielamimkigmaaGlobPartR
namespace Go.Proofs.Ytaielamimkigmaa
open Go.RowKit Go.ChangeShapes Globm Go.ChangeMaps

/-- a pattern matches names -/
def mB (L N : List ByteArray) : Bool := cv (L.map pk) N (fun _ => false) 0 0
theorem mB_iff {L N : List ByteArray} : mB L N = true ↔ Mt (L.map pk) N := cv_mt
theorem mB_nil (N : List ByteArray) : mB [] N = decide (N.length = 0) := by
  rw [Bool.eq_iff_iff, mB_iff, List.map_nil, mt_nil, decide_eq_true_iff]
  exact ⟨fun h => by rw [h]; rfl, fun h => List.eq_nil_of_length_eq_zero h⟩
theorem mB_any {t : ByteArray} {L N : List ByteArray} (h : isAny t = true) : mB (t :: L) N = true ↔ ∃ k, k ≤ N.length ∧ mB L (N.drop k) = true := by
  rw [mB_iff, List.map_cons, show pk t = .many by unfold pk; rw [h]; rfl, mt_many_drop]
  simp only [mB_iff]
theorem mB_one {t x : ByteArray} {L N : List ByteArray} (h : isAny t = false) : mB (t :: L) (x :: N) = (fitsT t x && mB L N) := by
  rw [Bool.eq_iff_iff, Bool.and_eq_true, mB_iff, mB_iff, List.map_cons, show pk t = .one (fitsT t) by unfold pk; rw [h]; rfl, mt_one]
  constructor
  · rintro ⟨y, u, e, h1, h2⟩
    injection e with e1 e2
    subst e1 e2
    exact ⟨h1, h2⟩
  · rintro ⟨h1, h2⟩
    exact ⟨x, N, rfl, h1, h2⟩
theorem mB_none {t : ByteArray} {L : List ByteArray} (h : isAny t = false) : mB (t :: L) [] = false := by
  rw [Bool.eq_false_iff, Ne, mB_iff, List.map_cons, show pk t = .one (fitsT t) by unfold pk; rw [h]; rfl, mt_one]
  rintro ⟨y, u, e, _⟩
  cases e
theorem fitsT_ptR {t x : ByteArray} (h : isAny t = false) : (ptR t x).1 = fitsT t x := by
  unfold ptR fitsT
  rcases marks (by8 t) with _ | m
  · rfl
  · show (if isAny t = true then _ else _ : Bool × Int).1 = _
    rw [if_neg (by rw [h]; decide)]

/-- a mark stands for something -/
theorem bz_iff {S : Nat → Bool} : bz (.one S) = true ↔ ∀ x, x < 256 → S x = false := by
  rw [← wj_empty]
  unfold bz
  simp only [Mk.run, ps, Bool.not_false, Bool.true_and, Bool.and_eq_true, beq_iff_eq]
  constructor
  · rintro ⟨h0, h1, h2, h3⟩; exact ⟨by omega, by omega, by omega, by omega⟩
  · rintro ⟨h0, h1, h2, h3⟩; exact ⟨by omega, by omega, by omega, by omega⟩

/-- names may begin so -/
def yB (L N : List ByteArray) : Bool := cv (L.map pk) N (beyT L) 0 0
theorem bey_mono {L : List ByteArray} {i j : Nat} (h : i ≤ j) (hb : beyT L i = true) : beyT L j = true := by
  unfold beyT at hb ⊢
  simp only [Bool.not_eq_true', List.any_eq_false] at hb ⊢
  intro x hx
  refine hb x ?_
  have : L.drop j = (L.drop i).drop (j - i) := by rw [List.drop_drop]; congr 1; omega
  rw [this] at hx
  exact List.mem_of_mem_drop hx
theorem bey_end (L : List ByteArray) : beyT L L.length = true := by
  unfold beyT
  rw [List.drop_length]; rfl
theorem mB_take_iff {L N : List ByteArray} {i : Nat} : mB (L.take i) N = true ↔ Mt ((L.map pk).take i) N := by
  rw [mB_iff, List.map_take]
theorem yB_iff {L N : List ByteArray} : yB L N = true ↔ ∃ i, i ≤ L.length ∧ beyT L i = true ∧ mB (L.take i) N = true := by
  have hc : yB L N = true ↔ Cv (L.map pk) N (beyT L) 0 0 := by
    unfold yB cv
    rw [Nat.sub_zero, cov_iff _ _ _ _ 0 (Nat.le_refl _) (Nat.zero_le _), Nat.sub_self]
  rw [hc]
  unfold Cv
  simp only [List.drop_zero, Nat.sub_zero, List.length_map]
  constructor
  · rintro ⟨j, -, hj, hm, h⟩
    refine ⟨j, hj, ?_, mB_take_iff.2 hm⟩
    rcases h with rfl | ⟨S, _, h⟩
    · exact bey_end L
    · exact h
  · rintro ⟨i, hi, hb, hm⟩
    obtain ⟨d, hd⟩ : ∃ d, L.length - i = d := ⟨_, rfl⟩
    induction d generalizing i with
    | zero =>
      refine ⟨i, Nat.zero_le _, hi, mB_take_iff.1 hm, .inl (by omega)⟩
    | succ d ih =>
      have hlt : i < L.length := by omega
      have hx : (L.map pk)[i]? = some (pk L[i]) := by rw [List.getElem?_map, List.getElem?_eq_getElem hlt]; rfl
      cases hp : pk L[i] with
      | one S => exact ⟨i, Nat.zero_le _, hi, mB_take_iff.1 hm, .inr ⟨S, by rw [hx, hp], hb⟩⟩
      | many =>
        rw [hp] at hx
        refine ih (i + 1) hlt (bey_mono (Nat.le_succ i) hb) (mB_take_iff.2 ?_) (by omega)
        rw [List.take_add_one, hx]
        show Mt ((L.map pk).take i ++ [Mk.many]) N
        rw [mt_append]
        exact ⟨N, [], by simp, mB_take_iff.1 hm, mt_many.2 ⟨[], [], rfl, .nil⟩⟩
/-- one step of the document's May -/
theorem yB_step {L N : List ByteArray} {i : Nat} (h : mB (L.take i) N = true) (hi : i ≤ L.length) (hb : beyT L i = true) : yB L N = true := yB_iff.2 ⟨i, hi, hb, h⟩
theorem yB_none {L N : List ByteArray} (h : ∀ i, i ≤ L.length → beyT L i = true → mB (L.take i) N = false) : yB L N = false := by
  rw [Bool.eq_false_iff, Ne, yB_iff]
  rintro ⟨i, h1, h2, h3⟩
  rw [h i h1 h2] at h3; cases h3
theorem bey_split {L : List ByteArray} {i : Nat} {t : ByteArray} (h : L[i]? = some t) : beyT L i = (!barT t && beyT L (i + 1)) := by
  unfold beyT
  rw [drop_cons h, List.any_cons, Bool.not_or]
end Go.Proofs.Ytaielamimkigmaa
