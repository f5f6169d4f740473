/-
  A beginning of squeezed bytes that ends with an item, opened: mathematics.
-/
import Derived.Test.YtaohkakefdhecaaSqBack
namespace Sqm
open Go Crcm
theorem pl_mono (b : List Int) (j : Nat) : ∀ d, pl b j ≤ pl b (j + d)
  | 0 => Nat.le_refl _
  | d + 1 => by
    have ih := pl_mono b j d
    have h1 := pl_le b (j + d)
    show pl b j ≤ nx b (pl b (j + d))
    rcases Nat.lt_or_ge (pl b (j + d)) b.length with h | h
    · have := nx_lt h; omega
    · rw [nx_end (by omega)]; omega
theorem ba_take {b : List Int} {e i : Nat} (h : i < e) : ba (b.take e) i = ba b i := by
  unfold ba
  rw [List.getD_eq_getElem?_getD, List.getElem?_take_of_lt h, ← List.getD_eq_getElem?_getD]
theorem cpy_more (o : List Int) (d : Nat) : ∀ n, ∃ r, cpy o d n = o ++ r
  | 0 => ⟨[], by simp [cpy]⟩
  | n + 1 => by
    obtain ⟨r, h⟩ := cpy_more o d n
    exact ⟨r ++ [(cpy o d n).getD ((cpy o d n).length - d) 0], by rw [← List.append_assoc, ← h]; rfl⟩
theorem put_more (b : List Int) (i : Nat) (o : List Int) : ∃ r, put b i o = o ++ r := by
  unfold put
  split
  · exact ⟨_, rfl⟩
  · exact cpy_more _ _ _
theorem ou_more (b : List Int) (j : Nat) : ∀ d, ∃ r, ou b (j + d) = ou b j ++ r
  | 0 => ⟨[], by simp⟩
  | d + 1 => by
    obtain ⟨r, h⟩ := ou_more b j d
    obtain ⟨r2, h2⟩ := put_more b (pl b (j + d)) (ou b (j + d))
    exact ⟨r ++ r2, by rw [← List.append_assoc, ← h]; exact h2⟩
theorem pre_at {b : List Int} {most k : Nat} (hf : fe b most (kn b) = 0) (hk : k < kn b) : ∀ j, j ≤ k + 1 → j ≤ kn (b.take (pl b (k + 1))) ∧ pl (b.take (pl b (k + 1))) j = pl b j ∧ ou (b.take (pl b (k + 1))) j = ou b j ∧ fe (b.take (pl b (k + 1))) most j = 0
  | 0, _ => ⟨Nat.zero_le _, rfl, rfl, rfl⟩
  | j + 1, hj => by
    obtain ⟨i1, i2, i3, i4⟩ := pre_at hf hk j (by omega)
    have hz : fe b most j = 0 := fe_zero hf (by omega)
    have hz1 : fe b most (j + 1) = 0 := fe_zero hf (by omega)
    rw [fe_at hz] at hz1
    obtain ⟨hw, hft, hm⟩ := er_ok.1 hz1
    have hp := pl_wh hw
    have hmo := pl_mono b (j + 1) (k - j)
    rw [show j + 1 + (k - j) = k + 1 by omega] at hmo
    have hs2 := sz_pos b (pl b j)
    have hle := pl_le b (k + 1)
    generalize hE : pl b (k + 1) = e at *
    generalize hP : pl b j = p at *
    have h0 : ba (b.take e) p = ba b p := ba_take (by omega)
    have hsz : sz (b.take e) p = sz b p := by unfold sz; rw [h0]
    have hcn : cnt (b.take e) p = cnt b p := by unfold cnt; rw [h0]
    have hln : (b.take e).length = e := by rw [List.length_take]; omega
    have hw2 : wh (b.take e) p = true := decide_eq_true (by rw [hsz, hln]; omega)
    have hfa : far (b.take e) p = far b p := by
      by_cases h : ba b p < 128
      · unfold far; rw [h0, if_pos h, if_pos h]
      · have h3 : sz b p = 3 := by unfold sz; rw [if_neg h]
        unfold far
        rw [h0, if_neg h, if_neg h, ba_take (by omega), ba_take (by omega)]
    have hpt : put (b.take e) p (ou b j) = put b p (ou b j) := by
      unfold put
      rw [h0, hfa, hcn]
      by_cases h : ba b p < 128
      · have h3 : sz b p = ba b p + 2 := by unfold sz; rw [if_pos h]
        rw [if_pos h, if_pos h, List.drop_take, List.take_take, show min (ba b p + 1) (e - (p + 1)) = ba b p + 1 by omega]
      · rw [if_neg h, if_neg h]
    have hkk : j < kn (b.take e) := kn_lt i1 (by rw [i2, hln]; omega)
    refine ⟨hkk, ?_, ?_, ?_⟩
    · rw [pl_wh (by rw [i2]; exact hw2), i2, hsz, hp]
    · rw [ou, i2, i3, hpt, ou, hP]
    · rw [fe_at i4, i2, i3]
      refine er_ok.2 ⟨hw2, ?_, by rw [hcn]; exact hm⟩
      unfold fit at hft ⊢
      rw [h0, hfa]; exact hft
/-- what such a beginning brings is a beginning of what all brings -/
theorem pre {b : List Int} {most k : Nat} (hf : oE b most = 0) (hk : k < kn b) : oE (b.take (pl b (k + 1))) most = 0 ∧ oO (b.take (pl b (k + 1))) most = ou b (k + 1) ∧ ∃ r, oO b most = ou b (k + 1) ++ r := by
  obtain ⟨h1, h2, h3, h4⟩ := pre_at (most := most) hf hk (k + 1) (Nat.le_refl _)
  have hle := pl_le b (k + 1)
  have hs : St (b.take (pl b (k + 1))) most (ou b (k + 1)) [] := ⟨k + 1, h1, by rw [h2]; exact List.drop_eq_nil_iff.2 (by rw [List.length_take]; omega), h3, h4⟩
  obtain ⟨r, hr⟩ := ou_more b (k + 1) (kn b - (k + 1))
  rw [show k + 1 + (kn b - (k + 1)) = kn b by omega] at hr
  exact ⟨hs.fin.1, hs.fin.2, r, by unfold oO; rw [if_pos hf]; exact hr⟩
end Sqm
