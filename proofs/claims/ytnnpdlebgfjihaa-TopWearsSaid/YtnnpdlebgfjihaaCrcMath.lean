/-
  Plain facts on the digits of a remainder: a step, steps one behind the other, rows of bytes, columns. Nothing of the program stands here.
-/
namespace Crcm

/-- a remainder's step over one digit -/
def st (r : BitVec 32) : BitVec 32 := (r >>> 1) ^^^ (if r.getLsbD 0 then 0xEDB88320#32 else 0#32)

def it : Nat → BitVec 32 → BitVec 32
  | 0, r => r
  | n + 1, r => it n (st r)

theorem xlc (a b c : BitVec 32) : a ^^^ (b ^^^ c) = b ^^^ (a ^^^ c) := by rw [← BitVec.xor_assoc, BitVec.xor_comm a b, BitVec.xor_assoc]
theorem xss (a b : BitVec 32) : a ^^^ (a ^^^ b) = b := by rw [← BitVec.xor_assoc, BitVec.xor_self, BitVec.zero_xor]

theorem st_zero : st 0#32 = 0#32 := by decide

theorem st_xor (a b : BitVec 32) : st (a ^^^ b) = st a ^^^ st b := by
  unfold st
  rw [BitVec.ushiftRight_xor_distrib, BitVec.getLsbD_xor]
  cases a.getLsbD 0 <;> cases b.getLsbD 0 <;> simp [BitVec.xor_assoc, xlc, BitVec.xor_comm]

theorem it_xor (n : Nat) : ∀ a b : BitVec 32, it n (a ^^^ b) = it n a ^^^ it n b := by
  induction n with
  | zero => intro a b; rfl
  | succ n ih => intro a b; simp only [it]; rw [st_xor, ih]

theorem it_zero (n : Nat) : it n 0#32 = 0#32 := by
  induction n with
  | zero => rfl
  | succ n ih => simp only [it]; rw [st_zero, ih]

theorem it_add (m n : Nat) : ∀ r, it (m + n) r = it n (it m r) := by
  induction m with
  | zero => intro r; simp [it]
  | succ m ih => intro r; rw [Nat.succ_add]; simp only [it]; rw [ih]

theorem it_succ (n : Nat) (r : BitVec 32) : it (n + 1) r = st (it n r) := by rw [it_add n 1]; rfl

theorem xor_self_eq {a b : BitVec 32} (h : a ^^^ b = 0#32) : a = b := by
  have : a ^^^ b ^^^ b = 0#32 ^^^ b := by rw [h]
  simpa [BitVec.xor_assoc] using this

theorem st_none {r : BitVec 32} (h : st r = 0#32) : r = 0#32 := by
  unfold st at h
  cases hb : r.getLsbD 0 with
  | true =>
    rw [hb] at h
    simp only [if_true] at h
    have e := xor_self_eq h
    have e2 : (r >>> 1).getLsbD 31 = (0xEDB88320#32).getLsbD 31 := by rw [e]
    rw [BitVec.getLsbD_ushiftRight] at e2
    simp at e2
  | false =>
    rw [hb] at h
    simp at h
    apply BitVec.eq_of_getLsbD_eq
    intro i hi
    cases i with
    | zero => rw [hb]; simp
    | succ i =>
      have e2 : (r >>> 1).getLsbD i = (0#32).getLsbD i := by rw [h]
      rw [BitVec.getLsbD_ushiftRight, Nat.add_comm] at e2
      rw [e2]; simp

theorem it_none (n : Nat) : ∀ {r : BitVec 32}, it n r = 0#32 → r = 0#32 := by
  induction n with
  | zero => intro r h; exact h
  | succ n ih => intro r h; exact st_none (ih h)

/-- a remainder behind a row of bytes -/
def F (r : BitVec 32) (l : List (BitVec 32)) : BitVec 32 := l.foldl (fun r b => it 8 (r ^^^ b)) r

theorem F_nil (r : BitVec 32) : F r [] = r := rfl
theorem F_cons (r b : BitVec 32) (l : List (BitVec 32)) : F r (b :: l) = F (it 8 (r ^^^ b)) l := rfl
theorem F_append (r : BitVec 32) (l m : List (BitVec 32)) : F r (l ++ m) = F (F r l) m := by unfold F; rw [List.foldl_append]
theorem F_snoc (r b : BitVec 32) (l : List (BitVec 32)) : F r (l ++ [b]) = it 8 (F r l ^^^ b) := by rw [F_append]; rfl

theorem F_xor : ∀ (l m : List (BitVec 32)) (r s : BitVec 32), l.length = m.length → F (r ^^^ s) (List.zipWith (· ^^^ ·) l m) = F r l ^^^ F s m := by
  intro l
  induction l with
  | nil => intro m r s h; cases m with | nil => rfl | cons _ _ => simp at h
  | cons b l ih =>
    intro m r s h
    cases m with
    | nil => simp at h
    | cons c m =>
      simp only [List.zipWith_cons_cons, F_cons]
      rw [← ih m _ _ (by simpa using h), ← it_xor]
      congr 2
      rw [BitVec.xor_assoc, BitVec.xor_assoc, xlc s b c]

theorem F_zeros (n : Nat) : ∀ r, F r (List.replicate n 0#32) = it (8 * n) r := by
  induction n with
  | zero => intro r; rfl
  | succ n ih => intro r; rw [List.replicate_succ, F_cons, ih, BitVec.xor_zero, ← it_add]; congr 1; omega

theorem F_from (l : List (BitVec 32)) (r : BitVec 32) : F r l = it (8 * l.length) r ^^^ F 0#32 l := by
  rw [← F_zeros, ← F_xor _ _ _ _ (by simp), BitVec.xor_zero]
  congr 1
  apply List.ext_getElem
  · simp
  · intro i h1 h2; simp

/-- a row of bytes as one number, the least first -/
def pk : List (BitVec 32) → BitVec 32
  | [] => 0#32
  | b :: l => b ^^^ (pk l <<< 8)

theorem st_shl (y : BitVec 32) (k : Nat) (h : y.toNat * 2 ^ (k + 1) < 2 ^ 32) : st (y <<< (k + 1)) = y <<< k := by
  unfold st
  have h0 : (y <<< (k + 1)).getLsbD 0 = false := by simp
  rw [h0]
  simp only [Bool.false_eq_true, if_false, BitVec.xor_zero]
  apply BitVec.eq_of_toNat_eq
  have h2 : y.toNat * 2 ^ k < 2 ^ 32 := Nat.lt_of_le_of_lt (Nat.mul_le_mul_left _ (Nat.pow_le_pow_right (by decide) (by omega))) h
  simp only [BitVec.toNat_ushiftRight, BitVec.toNat_shiftLeft, Nat.shiftLeft_eq, Nat.shiftRight_eq_div_pow]
  rw [Nat.mod_eq_of_lt h, Nat.mod_eq_of_lt h2, Nat.pow_succ, ← Nat.mul_assoc]
  simp

theorem it8_shl (y : BitVec 32) (h : y.toNat < 2 ^ 24) : it 8 (y <<< 8) = y := by
  simp only [it]
  rw [st_shl y 7 (by omega), st_shl y 6 (by omega), st_shl y 5 (by omega), st_shl y 4 (by omega), st_shl y 3 (by omega), st_shl y 2 (by omega), st_shl y 1 (by omega), st_shl y 0 (by omega)]
  simp

theorem xor_lt (a b : Nat) (n : Nat) (ha : a < 2 ^ n) (hb : b < 2 ^ n) : a ^^^ b < 2 ^ n := Nat.xor_lt_two_pow ha hb

theorem pk_lt : ∀ (l : List (BitVec 32)), (∀ b ∈ l, b.toNat < 256) → l.length ≤ 3 → (pk l).toNat < 2 ^ (8 * l.length) := by
  intro l
  induction l with
  | nil => intro _ _; simp [pk]
  | cons b l ih =>
    intro hb hl
    simp only [List.length_cons] at hl
    have h1 := ih (fun x hx => hb x (by simp [hx])) (by omega)
    have h2 := hb b (by simp)
    simp only [pk, BitVec.toNat_xor, List.length_cons]
    apply Nat.xor_lt_two_pow
    · exact Nat.lt_of_lt_of_le h2 (by rw [show (256 : Nat) = 2 ^ 8 from rfl]; exact Nat.pow_le_pow_right (by decide) (by omega))
    · rw [BitVec.toNat_shiftLeft, Nat.shiftLeft_eq]
      have : (pk l).toNat * 2 ^ 8 < 2 ^ (8 * (l.length + 1)) := by
        rw [show 8 * (l.length + 1) = 8 * l.length + 8 by omega, Nat.pow_add]
        exact Nat.mul_lt_mul_of_pos_right h1 (by decide)
      exact Nat.lt_of_le_of_lt (Nat.mod_le _ _) this

theorem F_pk : ∀ (l : List (BitVec 32)), (∀ b ∈ l, b.toNat < 256) → l.length ≤ 4 → F 0#32 l = it (8 * l.length) (pk l) := by
  intro l
  induction l with
  | nil => intro _ _; rfl
  | cons b l ih =>
    intro hb hl
    simp only [List.length_cons] at hl
    have hl3 := pk_lt l (fun x hx => hb x (by simp [hx])) (by omega)
    have h24 : (pk l).toNat < 2 ^ 24 := Nat.lt_of_lt_of_le hl3 (Nat.pow_le_pow_right (by decide) (by omega))
    rw [F_cons, F_from, ih (fun x hx => hb x (by simp [hx])) (by omega), ← it_xor, List.length_cons, show 8 * (l.length + 1) = 8 + 8 * l.length by omega, it_add]
    congr 1
    simp only [pk]
    rw [BitVec.zero_xor, it_xor, it8_shl _ h24]

theorem pk_none : ∀ (l : List (BitVec 32)), (∀ b ∈ l, b.toNat < 256) → l.length ≤ 4 → pk l = 0#32 → ∀ b ∈ l, b = 0#32 := by
  intro l
  induction l with
  | nil => intro _ _ _ b hb; cases hb
  | cons c l ih =>
    intro hb hl h
    simp only [List.length_cons] at hl
    have hl3 := pk_lt l (fun x hx => hb x (by simp [hx])) (by omega)
    have h24 : (pk l).toNat < 2 ^ 24 := Nat.lt_of_lt_of_le hl3 (Nat.pow_le_pow_right (by decide) (by omega))
    have hc := hb c (by simp)
    have e := xor_self_eq h
    have e2 : c.toNat = (pk l <<< 8).toNat := by rw [e]
    rw [BitVec.toNat_shiftLeft, Nat.shiftLeft_eq, Nat.mod_eq_of_lt (by omega)] at e2
    have hp : pk l = 0#32 := BitVec.eq_of_toNat_eq (by show _ = 0; omega)
    have hc0 : c = 0#32 := BitVec.eq_of_toNat_eq (by show _ = 0; omega)
    intro b hb'
    rcases List.mem_cons.1 hb' with rfl | h'
    · exact hc0
    · exact ih (fun x hx => hb x (by simp [hx])) (by omega) hp b h'

theorem zip_bytes (l m : List (BitVec 32)) (hl : ∀ b ∈ l, b.toNat < 256) (hm : ∀ b ∈ m, b.toNat < 256) : ∀ b ∈ List.zipWith (· ^^^ ·) l m, b.toNat < 256 := by
  intro b hb
  obtain ⟨i, hi, rfl⟩ := List.mem_iff_getElem.1 hb
  rw [List.getElem_zipWith, BitVec.toNat_xor]
  simp only [List.length_zipWith] at hi
  exact Nat.xor_lt_two_pow (n := 8) (hl _ (List.getElem_mem (by omega))) (hm _ (List.getElem_mem (by omega)))

theorem zip_none (l m : List (BitVec 32)) (h : l.length = m.length) (h0 : ∀ b ∈ List.zipWith (· ^^^ ·) l m, b = 0#32) : l = m := by
  apply List.ext_getElem h
  intro i h1 h2
  have hi : i < (List.zipWith (· ^^^ ·) l m).length := by rw [List.length_zipWith]; omega
  have := h0 _ (List.getElem_mem hi)
  rw [List.getElem_zipWith] at this
  exact xor_self_eq this

/-- two rows of at most four bytes that leave one remainder are one -/
theorem F_inj4 (r : BitVec 32) (l m : List (BitVec 32)) (hl : ∀ b ∈ l, b.toNat < 256) (hm : ∀ b ∈ m, b.toNat < 256) (h : l.length = m.length) (h4 : l.length ≤ 4) (e : F r l = F r m) : l = m := by
  have hz := zip_bytes l m hl hm
  have hlz : (List.zipWith (· ^^^ ·) l m).length = l.length := by rw [List.length_zipWith]; omega
  have ex := F_xor l m r r h
  rw [e, BitVec.xor_self, BitVec.xor_self, F_pk _ hz (by omega)] at ex
  exact zip_none l m h (pk_none _ hz (by omega) (it_none _ ex))

theorem burst (r : BitVec 32) (l m : List (BitVec 32)) (x : List (BitVec 32)) (y : List (BitVec 32)) (hx : ∀ b ∈ x, b.toNat < 256) (h4 : x.length ≤ 4) (hy : y.length = x.length) :
    F r (l ++ y ++ m) = F r (l ++ List.zipWith (· ^^^ ·) y x ++ m) ↔ ∀ b ∈ x, b = 0#32 := by
  have e : F r (l ++ y ++ m) ^^^ F r (l ++ List.zipWith (· ^^^ ·) y x ++ m) = it (8 * m.length) (F 0#32 x) := by
    rw [F_append, F_append r _ m, F_append, F_append r l, F_from m, F_from m (F (F r l) (List.zipWith _ y x))]
    have e1 : F (F r l) (List.zipWith (· ^^^ ·) y x) = F (F r l) y ^^^ F 0#32 x := by
      have := F_xor y x (F r l) 0#32 hy
      rwa [BitVec.xor_zero] at this
    rw [e1, it_xor]
    generalize it (8 * m.length) (F (F r l) y) = p
    generalize it (8 * m.length) (F 0#32 x) = q
    generalize F 0#32 m = s
    rw [BitVec.xor_assoc, BitVec.xor_assoc, xlc s p, xss, BitVec.xor_comm q s, xss]
  constructor
  · intro h
    rw [h, BitVec.xor_self] at e
    have e2 := it_none _ e.symm
    rw [F_pk x hx h4] at e2
    exact pk_none x hx h4 (it_none _ e2)
  · intro h
    have hx0 : F 0#32 x = 0#32 := by
      have : x = List.replicate x.length 0#32 := List.eq_replicate_iff.2 ⟨rfl, h⟩
      rw [this, F_zeros, it_zero]
    rw [hx0, it_zero] at e
    exact xor_self_eq e

/-- the step as the document's other reckoning has it: the byte's digits come one by one -/
theorem other (r b : BitVec 32) (k : Nat) :
    ((it k (r ^^^ b) ^^^ (b >>> k)) >>> 1) ^^^ (if (it k (r ^^^ b) ^^^ (b >>> k) ^^^ (b >>> k)).getLsbD 0 then 0xEDB88320#32 else 0#32) = it (k + 1) (r ^^^ b) ^^^ (b >>> (k + 1)) := by
  rw [it_succ]
  rw [BitVec.xor_assoc (it k _), BitVec.xor_self, BitVec.xor_zero, BitVec.ushiftRight_xor_distrib, ← BitVec.shiftRight_add]
  unfold st
  simp only [BitVec.xor_assoc, BitVec.xor_comm]

/-- put together by exclusive-or -/
def X (g : Nat → BitVec 32) : Nat → BitVec 32
  | 0 => 0#32
  | n + 1 => X g n ^^^ g n

theorem X_it (k : Nat) (g : Nat → BitVec 32) (n : Nat) : it k (X g n) = X (fun i => it k (g i)) n := by
  induction n with
  | zero => exact it_zero k
  | succ n ih => simp only [X]; rw [it_xor, ih]

theorem X_congr {g h : Nat → BitVec 32} (n : Nat) (e : ∀ i, i < n → g i = h i) : X g n = X h n := by
  induction n with
  | zero => rfl
  | succ n ih => simp only [X]; rw [ih fun i hi => e i (by omega), e n (by omega)]

def dg (r : BitVec 32) (i : Nat) : BitVec 32 := if r.getLsbD i then BitVec.twoPow 32 i else 0#32

theorem X_bits (r : BitVec 32) (n : Nat) : ∀ j, (X (dg r) n).getLsbD j = (decide (j < n) && r.getLsbD j) := by
  induction n with
  | zero => intro j; simp [X]
  | succ n ih =>
    intro j
    simp only [X, BitVec.getLsbD_xor, ih, dg]
    by_cases h : j = n
    · subst h
      cases hb : r.getLsbD j with
      | true => have := BitVec.lt_of_getLsbD hb; simp [this]
      | false => simp
    · have h1 : decide (j < n + 1) = decide (j < n) := by simp; omega
      rw [h1]
      cases hb : r.getLsbD n with
      | true =>
        have e : decide (n = j) = false := by simp; omega
        simp [BitVec.getLsbD_twoPow, e]
      | false => simp

theorem X_all (r : BitVec 32) : X (dg r) 32 = r := by
  apply BitVec.eq_of_getLsbD_eq
  intro i hi
  rw [X_bits]; simp [hi]

/-- a step's columns: what k digits' steps make of the digit i alone -/
def col (k i : Nat) : BitVec 32 := it k (BitVec.twoPow 32 i)

theorem cols (k : Nat) (r : BitVec 32) : X (fun i => if r.getLsbD i then col k i else 0#32) 32 = it k r := by
  conv => rhs; rw [← X_all r]
  rw [X_it]
  apply X_congr
  intro i _
  unfold dg col
  cases r.getLsbD i <;> simp [it_zero]

theorem col_twice (k i : Nat) : it k (col k i) = col (k + k) i := by unfold col; rw [it_add]

end Crcm
