/-
  Squeezed bytes: what items are, and what comes out of them. Nothing of the program stands here.
-/
namespace Sqm

/-- the byte at a place -/
def ba (l : List Int) (i : Nat) : Nat := (l.getD i 0).toNat
/-- how many bytes the item at a place takes, and how many come out of it; its distance -/
def sz (l : List Int) (i : Nat) : Nat := if ba l i < 128 then ba l i + 2 else 3
def cnt (l : List Int) (i : Nat) : Nat := if ba l i < 128 then ba l i + 1 else ba l i - 125
def far (l : List Int) (i : Nat) : Nat := if ba l i < 128 then 0 else ba l (i + 1) + 256 * ba l (i + 2)
/-- does it end within the bytes? -/
def wh (l : List Int) (i : Nat) : Bool := decide (i + sz l i ≤ l.length)
/-- where the next one begins; the end, if this one ends too soon -/
def nx (l : List Int) (i : Nat) : Nat := if i + sz l i ≤ l.length then i + sz l i else l.length
/-- where the item of a number begins -/
def pl (l : List Int) : Nat → Nat
  | 0 => 0
  | k + 1 => nx l (pl l k)
theorem sz_pos (l : List Int) (i : Nat) : 2 ≤ sz l i := by unfold sz; split <;> omega
theorem nx_le (l : List Int) (i : Nat) : nx l i ≤ l.length := by unfold nx; split <;> omega
theorem nx_lt {l : List Int} {i : Nat} (h : i < l.length) : i < nx l i := by have := sz_pos l i; unfold nx; split <;> omega
theorem pl_le (l : List Int) : ∀ k, pl l k ≤ l.length
  | 0 => Nat.zero_le _
  | k + 1 => nx_le l (pl l k)
theorem nx_end {l : List Int} {i : Nat} (h : i = l.length) : nx l i = l.length := by have := sz_pos l i; unfold nx; rw [if_neg (by omega)]
/-- how many there are, the one that ends too soon too -/
def kf (l : List Int) : Nat → Nat → Nat
  | 0, k => k
  | f + 1, k => if pl l k < l.length then kf l f (k + 1) else k
def kn (l : List Int) : Nat := kf l l.length 0
theorem kf_spec (l : List Int) : ∀ f k, l.length ≤ f + pl l k → k ≤ kf l f k ∧ pl l (kf l f k) = l.length ∧ ∀ j, k ≤ j → j < kf l f k → pl l j < l.length := by
  intro f
  induction f with
  | zero => intro k h; have := pl_le l k; exact ⟨Nat.le_refl _, by unfold kf; omega, fun j h1 h2 => by unfold kf at h2; omega⟩
  | succ f ih =>
    intro k h
    unfold kf
    split
    · rename_i hlt
      have hn : pl l k < pl l (k + 1) := nx_lt hlt
      obtain ⟨h1, h2, h3⟩ := ih (k + 1) (by omega)
      exact ⟨by omega, h2, fun j hj1 hj2 => by
        rcases (by omega : j = k ∨ k + 1 ≤ j) with rfl | hj
        · exact hlt
        · exact h3 j hj hj2⟩
    · have := pl_le l k
      exact ⟨Nat.le_refl _, by omega, fun j h1 h2 => by omega⟩
theorem pl_kn (l : List Int) : pl l (kn l) = l.length := (kf_spec l l.length 0 (by simp [pl])).2.1
theorem pl_lt {l : List Int} {k : Nat} (h : k < kn l) : pl l k < l.length := (kf_spec l l.length 0 (by simp [pl])).2.2 k (Nat.zero_le _) h
theorem kn_lt {l : List Int} {k : Nat} (hk : k ≤ kn l) (h : pl l k < l.length) : k < kn l := by
  rcases Nat.lt_or_ge k (kn l) with h1 | h1
  · exact h1
  · obtain rfl : k = kn l := by omega
    rw [pl_kn] at h; omega
/-- only the last one ends too soon -/
theorem wh_last {l : List Int} {k : Nat} (h : k < kn l) (hw : wh l (pl l k) = false) : k + 1 = kn l := by
  have h1 : pl l (k + 1) = l.length := by
    show nx l (pl l k) = _
    unfold nx
    rw [if_neg (of_decide_eq_false hw)]
  rcases (by omega : k + 1 = kn l ∨ k + 1 < kn l) with h2 | h2
  · exact h2
  · have := pl_lt h2; omega
theorem pl_wh {l : List Int} {k : Nat} (hw : wh l (pl l k) = true) : pl l (k + 1) = pl l k + sz l (pl l k) := by
  show nx l (pl l k) = _
  unfold nx
  rw [if_pos (of_decide_eq_true hw)]
theorem kn_le (l : List Int) : kn l ≤ l.length := by
  have h : ∀ k, k ≤ kn l → k ≤ pl l k := by
    intro k
    induction k with
    | zero => intro _; omega
    | succ k ih => intro hk; have := ih (by omega); have := nx_lt (pl_lt (l := l) (k := k) (by omega)); show k + 1 ≤ nx l (pl l k); omega
  have := h (kn l) (Nat.le_refl _)
  rw [pl_kn] at this; exact this

/-- bytes behind others, each the one that stands so far ahead -/
def cpy (o : List Int) (d : Nat) : Nat → List Int
  | 0 => o
  | n + 1 => cpy o d n ++ [(cpy o d n).getD ((cpy o d n).length - d) 0]
theorem cpy_length (o : List Int) (d : Nat) : ∀ n, (cpy o d n).length = o.length + n
  | 0 => rfl
  | n + 1 => by rw [cpy, List.length_append, cpy_length o d n]; rfl
/-- what has come out when the item at a place has been put -/
def put (l : List Int) (i : Nat) (o : List Int) : List Int := if ba l i < 128 then o ++ (l.drop (i + 1)).take (ba l i + 1) else cpy o (far l i) (cnt l i)
def ou (l : List Int) : Nat → List Int
  | 0 => []
  | k + 1 => put l (pl l k) (ou l k)
/-- may it stand where so many have come out? -/
def fit (l : List Int) (i n : Nat) : Bool := decide (ba l i < 128 ∨ (1 ≤ far l i ∧ far l i ≤ n))
/-- its error -/
def er (l : List Int) (most i n : Nat) : Int := if wh l i = true ∧ fit l i n = true then (if n + cnt l i ≤ most then 0 else 2) else 50
/-- the first error of the first so many -/
def fe (l : List Int) (most : Nat) : Nat → Int
  | 0 => 0
  | k + 1 => if fe l most k = 0 then er l most (pl l k) (ou l k).length else fe l most k
theorem er_no {l : List Int} {most i n : Nat} (h : ¬ (wh l i = true ∧ fit l i n = true)) : er l most i n = 50 := by unfold er; rw [if_neg h]
theorem er_ok {l : List Int} {most i n : Nat} : er l most i n = 0 ↔ wh l i = true ∧ fit l i n = true ∧ n + cnt l i ≤ most := by
  unfold er
  split
  · split
    · simp [*]
    · simp [*]
  · rename_i h; simp; intro h1 h2; exact absurd ⟨h1, h2⟩ h
theorem put_length {l : List Int} {i : Nat} {o : List Int} (hw : wh l i = true) : (put l i o).length = o.length + cnt l i := by
  have hw' := of_decide_eq_true hw
  unfold put
  unfold sz at hw'
  split
  · rename_i h
    rw [if_pos h] at hw'
    rw [List.length_append, List.length_take, List.length_drop]
    unfold cnt
    rw [if_pos h]
    omega
  · rw [cpy_length]
theorem fe_prev {l : List Int} {most k : Nat} (h : fe l most (k + 1) = 0) : fe l most k = 0 := by
  unfold fe at h
  split at h
  · assumption
  · exact h
theorem fe_zero {l : List Int} {most k j : Nat} (h : fe l most k = 0) (hj : j ≤ k) : fe l most j = 0 := by
  induction k with
  | zero => obtain rfl : j = 0 := by omega
            exact h
  | succ k ih =>
    rcases (by omega : j = k + 1 ∨ j ≤ k) with rfl | h1
    · exact h
    · exact ih (fe_prev h) h1
theorem fe_err {l : List Int} {most k : Nat} (h : fe l most k ≠ 0) : ∀ d, fe l most (k + d) = fe l most k
  | 0 => rfl
  | d + 1 => by
    show fe l most (k + d + 1) = _
    have ih := fe_err h d
    rw [fe, ih, if_neg h]
theorem fe_at {l : List Int} {most k : Nat} (h : fe l most k = 0) : fe l most (k + 1) = er l most (pl l k) (ou l k).length := by rw [fe, if_pos h]
/-- what Open answers -/
def oE (l : List Int) (most : Nat) : Int := fe l most (kn l)
def oO (l : List Int) (most : Nat) : List Int := if oE l most = 0 then ou l (kn l) else []
theorem oE_err {l : List Int} {most k : Nat} (hk : k ≤ kn l) (h : fe l most k ≠ 0) : oE l most = fe l most k ∧ oO l most = [] := by
  have h1 : oE l most = fe l most k := by
    unfold oE
    have := fe_err h (kn l - k)
    rwa [show k + (kn l - k) = kn l by omega] at this
  exact ⟨h1, by unfold oO; rw [h1, if_neg h]⟩
theorem ou_len {l : List Int} {most k : Nat} (h : fe l most k = 0) : (ou l k).length ≤ most := by
  induction k with
  | zero => simp [ou]
  | succ k ih =>
    have h1 := fe_at (fe_prev h)
    rw [h] at h1
    obtain ⟨hw, -, hm⟩ := er_ok.1 h1.symm
    rw [ou, put_length hw]; exact hm
end Sqm
