/-
  Rows of blocks mended, as lists. Nothing of the program stands here.
-/
import Derived.Test.YtdcpbbfaakddaaaEccRowsM
import Derived.Test.YtdcpbbfaakddaaaEccJudge
namespace Go.Proofs.Ytdcpbbfaakddaaa
open Go.RowKit Crcm Tagm Eccm

/-- the code number j -/
def cnum (z : List Int) (j : Nat) : Nat := (nu ((z.drop (4 * j)).take 4)).toNat
/-- what comes of mending a block by a code that may be none -/
def rr (k : List Int) (C : Nat) : Option Int := if C < 131072 then mb k C else none
/-- a row of which a block is mended -/
def nb (X : List Int) (o : Nat) : Option Int → List Int
  | some r => if 0 ≤ r then tn X (8 * o + r.toNat) else X
  | none => X
theorem nb_length (X : List Int) (o : Nat) (r : Option Int) : (nb X o r).length = X.length := by
  unfold nb; rcases r with _ | r
  · rfl
  · simp only; split
    · exact tn_length _ _
    · rfl
theorem nb_U8 (X : List Int) (o : Nat) (r : Option Int) (h : ∀ b ∈ X, U8 b) : ∀ b ∈ nb X o r, U8 b := by
  unfold nb; rcases r with _ | r
  · exact h
  · simp only; split
    · exact tn_U8 _ _ h
    · exact h
def stp (z : List Int) (n : Nat) (s : List Int × List Int) (x : Nat) : List Int × List Int :=
  (nb s.1 (x * n) (rr (ck s.1 n x) (cnum z s.2.length)), s.2 ++ [jK (rr (ck s.1 n x) (cnum z s.2.length))])
def fs (z : List Int) (n : Nat) (l : List Int) (pre : List Nat) : List Int × List Int := pre.foldl (stp z n) (l, [])
theorem fs_snoc (z : List Int) (n : Nat) (l : List Int) (pre : List Nat) (x : Nat) : fs z n l (pre ++ [x]) = stp z n (fs z n l pre) x := by unfold fs; rw [List.foldl_append]; rfl
theorem fold_any (z : List Int) (n : Nat) : ∀ (pre : List Nat) (s : List Int × List Int), (∀ b ∈ s.1, U8 b) → (pre.foldl (stp z n) s).1.length = s.1.length ∧ (pre.foldl (stp z n) s).2.length = s.2.length + pre.length ∧ ∀ b ∈ (pre.foldl (stp z n) s).1, U8 b
  | [], s, h => ⟨rfl, rfl, h⟩
  | x :: r, s, h => by
    obtain ⟨h1, h2, h3⟩ := fold_any z n r (stp z n s x) (nb_U8 _ _ _ h)
    refine ⟨h1.trans (nb_length _ _ _), ?_, h3⟩
    show (r.foldl (stp z n) (stp z n s x)).2.length = _
    rw [h2]
    simp [stp]; omega
theorem fs_len (z : List Int) (n : Nat) (l : List Int) (pre : List Nat) (h : ∀ b ∈ l, U8 b) : (fs z n l pre).1.length = l.length ∧ (fs z n l pre).2.length = pre.length ∧ ∀ b ∈ (fs z n l pre).1, U8 b := by
  have := fold_any z n pre (l, []) h
  simpa [fs] using this

/-- the pieces in order -/
def pcs (z : List Int) (n : Nat) (l : List Int) : Nat → List Int
  | 0 => []
  | k + 1 => pcs z n l k ++ nb (ck l n k) 0 (rr (ck l n k) (cnum z k))
def kis (z : List Int) (n : Nat) (l : List Int) (k : Nat) : List Int := (List.range k).map (fun i => jK (rr (ck l n i) (cnum z i)))
theorem rr_bit {k : List Int} {C : Nat} {r : Int} (h : rr k C = some r) (h0 : 0 ≤ r) : r.toNat < 8 * k.length := by
  unfold rr at h
  split at h
  · rcases mb_cases k C with e | e | e | ⟨j, hj, e⟩
    · rw [e] at h; cases h
    · rw [e] at h; injection h with h; omega
    · rw [e] at h; injection h with h; omega
    · rw [e] at h; injection h with h; omega
  · cases h
theorem tn_append (P Q : List Int) (j : Nat) : tn (P ++ Q) (8 * P.length + j) = P ++ tn Q j := by
  unfold tn
  have e1 : (8 * P.length + j) / 8 = P.length + j / 8 := by omega
  have e2 : (8 * P.length + j) % 8 = j % 8 := by omega
  rw [e1, e2, List.set_append_right _ _ (by omega), show P.length + j / 8 - P.length = j / 8 by omega]
  congr 3
  rw [List.getD_eq_getElem?_getD, List.getElem?_append_right (by omega), show P.length + j / 8 - P.length = j / 8 by omega, ← List.getD_eq_getElem?_getD]
theorem tn_left (P Q : List Int) (j : Nat) (h : j < 8 * P.length) : tn (P ++ Q) j = tn P j ++ Q := by
  unfold tn
  rw [List.set_append_left _ _ (by omega)]
  congr 3
  rw [List.getD_eq_getElem?_getD, List.getElem?_append_left (by omega), ← List.getD_eq_getElem?_getD]
theorem nb_parts (P B Q : List Int) (r : Option Int) (h : ∀ k, r = some k → 0 ≤ k → k.toNat < 8 * B.length) : nb (P ++ (B ++ Q)) P.length r = P ++ (nb B 0 r ++ Q) := by
  rcases r with _ | k
  · rfl
  · unfold nb
    simp only
    by_cases h0 : 0 ≤ k
    · rw [if_pos h0, if_pos h0, tn_append, tn_left _ _ _ (h k rfl h0), Nat.mul_zero, Nat.zero_add]
    · rw [if_neg h0, if_neg h0]
theorem fs_range (z : List Int) (n : Nat) (l : List Int) (hn : 1 ≤ n) : ∀ k, (∀ i, i < k → i * n < l.length) → fs z n l (List.range k) = (pcs z n l k ++ l.drop (k * n), kis z n l k) ∧ ((∀ i, i < k → (i + 1) * n ≤ l.length) → (pcs z n l k).length = k * n) := by
  intro k
  induction k with
  | zero => intro _; exact ⟨by simp [fs, pcs, kis], fun _ => by simp [pcs]⟩
  | succ k ih =>
    intro hk
    obtain ⟨e, hl⟩ := ih (fun i hi => hk i (by omega))
    have hkl : (pcs z n l k).length = k * n := hl (fun i hi => by
      have := hk k (by omega)
      have h2 : (i + 1) * n ≤ k * n := Nat.mul_le_mul_right n hi
      omega)
    have hc : ck (pcs z n l k ++ l.drop (k * n)) n k = ck l n k := by
      unfold ck
      rw [List.drop_append_of_le_length (by omega), List.drop_of_length_le (by omega), List.nil_append]
    have hd : l.drop (k * n) = ck l n k ++ l.drop ((k + 1) * n) := by
      unfold ck
      rw [Nat.add_mul, Nat.one_mul, ← List.drop_drop]
      exact (List.take_append_drop n _).symm
    have hkk : (kis z n l k).length = k := by simp [kis]
    refine ⟨?_, ?_⟩
    · rw [List.range_succ, fs_snoc, e]
      unfold stp
      simp only
      rw [hc, hkk]
      have hp := nb_parts (pcs z n l k) (ck l n k) (l.drop ((k + 1) * n)) (rr (ck l n k) (cnum z k)) (fun j hj h0 => rr_bit hj h0)
      rw [hkl] at hp
      rw [hd, hp]
      refine Prod.ext ?_ ?_
      · show pcs z n l k ++ (nb (ck l n k) 0 _ ++ l.drop ((k + 1) * n)) = (pcs z n l k ++ nb (ck l n k) 0 _) ++ l.drop ((k + 1) * n)
        rw [List.append_assoc]
      · unfold kis
        rw [List.range_succ, List.map_append]; rfl
    · intro hf
      show (pcs z n l k ++ nb (ck l n k) 0 _).length = _
      rw [List.length_append, hkl, nb_length, Nat.add_mul, Nat.one_mul]
      have h1 := hf k (by omega)
      rw [Nat.add_mul] at h1
      unfold ck
      rw [List.length_take, List.length_drop]
      omega
/-- how many were so -/
def cnt (l : List Int) (i : Nat) : Nat := (l.filter (fun k => k == (i : Int))).length
theorem cnt_le (l : List Int) (i : Nat) : cnt l i ≤ l.length := List.length_filter_le _ _
theorem cnt_snoc (l : List Int) (k : Int) (i : Nat) : cnt (l ++ [k]) i = if k = (i : Int) then cnt l i + 1 else cnt l i := by
  unfold cnt
  rw [List.filter_append, List.length_append]
  by_cases h : k = (i : Int)
  · rw [if_pos h]; simp [h]
  · rw [if_neg h]; simp [h]
theorem jK_any (r : Option Int) : jK r = 0 ∨ jK r = 1 ∨ jK r = 2 ∨ jK r = 3 := by
  rcases r with _ | r
  · exact .inr (.inr (.inr rfl))
  · unfold jK; simp only
    split
    · exact .inl rfl
    · split
      · exact .inr (.inr (.inl rfl))
      · exact .inr (.inl rfl)
end Go.Proofs.Ytdcpbbfaakddaaa
