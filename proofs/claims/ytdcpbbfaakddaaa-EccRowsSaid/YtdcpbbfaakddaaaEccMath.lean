/-
  Plain facts on places, digits and codes. Nothing of the program stands here.
-/
namespace Eccm

/-- a power of 2 -/
def pw (n : Nat) : Bool := n == 2 ^ n.log2
theorem pw_iff {n : Nat} : pw n = true ↔ ∃ i, n = 2 ^ i := by
  unfold pw
  constructor
  · intro h; exact ⟨_, by simpa using h⟩
  · rintro ⟨i, rfl⟩; simp [Nat.log2_two_pow]
theorem pw_no {n : Nat} (h : pw n = false) (i : Nat) : n ≠ 2 ^ i := by
  intro e
  have : pw n = true := pw_iff.2 ⟨i, e⟩
  rw [h] at this; cases this
theorem pw_zero : pw 0 = false := by decide
theorem pw_one : pw 1 = true := by decide
theorem pw_odd {n : Nat} (h : 1 < n) (ho : n % 2 = 1) : pw n = false := by
  rcases hb : pw n with _ | _
  · rfl
  · obtain ⟨i, e⟩ := pw_iff.1 hb
    cases i with
    | zero => simp at e; omega
    | succ i => rw [Nat.pow_succ] at e; omega
theorem pw_even {n : Nat} (he : n % 2 = 0) : pw n = pw (n / 2) := by
  apply Bool.eq_iff_iff.2
  rw [pw_iff, pw_iff]
  constructor
  · rintro ⟨i, e⟩
    cases i with
    | zero => simp at e; omega
    | succ i => exact ⟨i, by rw [Nat.pow_succ] at e; omega⟩
  · rintro ⟨i, e⟩
    exact ⟨i + 1, by rw [Nat.pow_succ]; omega⟩
theorem pw_next {n : Nat} (h : 2 ≤ n) (hp : pw n = true) : pw (n + 1) = false := by
  obtain ⟨i, e⟩ := pw_iff.1 hp
  cases i with
  | zero => simp at e; omega
  | succ i => exact pw_odd (by omega) (by rw [Nat.pow_succ] at e; omega)

/-- from p on the first one that is no power -/
def nx (p : Nat) : Nat := if pw p then p + 1 else p
/-- the place of a bit -/
def pl : Nat → Nat
  | 0 => 3
  | k + 1 => nx (pl k + 1)

theorem nx_yes {p : Nat} (h : pw p = true) : nx p = p + 1 := by unfold nx; rw [if_pos h]
theorem nx_no {p : Nat} (h : pw p = false) : nx p = p := by unfold nx; rw [if_neg (by rw [h]; decide)]
theorem nx_np {p : Nat} (h : 2 ≤ p) : pw (nx p) = false := by
  rcases hp : pw p with _ | _
  · rw [nx_no hp]; exact hp
  · rw [nx_yes hp]; exact pw_next h hp
theorem nx_ge (p : Nat) : p ≤ nx p := by unfold nx; split <;> omega
theorem pl_ge (k : Nat) : k + 3 ≤ pl k := by
  induction k with
  | zero => decide
  | succ k ih => have := nx_ge (pl k + 1); show _ ≤ nx _; omega
theorem pl_np (k : Nat) : pw (pl k) = false := by
  cases k with
  | zero => decide
  | succ k => exact nx_np (by have := pl_ge k; omega)
theorem pl_step (k : Nat) : pl k < pl (k + 1) := by have := nx_ge (pl k + 1); show _ < nx _; omega
theorem pl_lt {j k : Nat} (h : j < k) : pl j < pl k := by
  induction k with
  | zero => omega
  | succ k ih =>
    have := pl_step k
    rcases (by omega : j < k ∨ j = k) with h | rfl
    · have := ih h; omega
    · exact this
theorem pl_inj {j k : Nat} (h : pl j = pl k) : j = k := by
  rcases Nat.lt_trichotomy j k with h1 | h1 | h1
  · have := pl_lt h1; omega
  · exact h1
  · have := pl_lt h1; omega
theorem log2_step {n : Nat} (h : 1 ≤ n) : (n + 1).log2 = if pw (n + 1) then n.log2 + 1 else n.log2 := by
  have h1 : 2 ^ n.log2 ≤ n := Nat.log2_self_le (by omega)
  have h2 : n < 2 ^ (n.log2 + 1) := Nat.lt_log2_self
  by_cases hp : pw (n + 1) = true
  · rw [if_pos hp]
    obtain ⟨i, e⟩ := pw_iff.1 hp
    rw [e, Nat.log2_two_pow]
    have hi : 2 ^ n.log2 < 2 ^ i := by omega
    have hi2 : 2 ^ i ≤ 2 ^ (n.log2 + 1) := by omega
    have := (Nat.pow_lt_pow_iff_right (by decide : 1 < 2)).1 hi
    have := (Nat.pow_le_pow_iff_right (by decide : 1 < 2)).1 hi2
    omega
  · rw [if_neg hp]
    have h3 : n + 1 ≠ 2 ^ (n.log2 + 1) := fun e => hp (pw_iff.2 ⟨_, e⟩)
    exact (Nat.log2_eq_iff (by omega)).2 ⟨by omega, by omega⟩
theorem pl_log (k : Nat) : pl k = k + 2 + (pl k).log2 := by
  induction k with
  | zero => decide
  | succ k ih =>
    have hge := pl_ge k
    have hs := log2_step (n := pl k) (by omega)
    show nx (pl k + 1) = _
    rcases hp : pw (pl k + 1) with _ | _
    · rw [nx_no hp]
      rw [hp] at hs
      simp only [Bool.false_eq_true, if_false] at hs
      show pl k + 1 = k + 1 + 2 + (nx (pl k + 1)).log2
      rw [nx_no hp, hs]; omega
    · have hs2 := log2_step (n := pl k + 1) (by omega)
      rw [pw_next (by omega) hp] at hs2
      rw [hp] at hs
      simp only [Bool.false_eq_true, if_false, if_true] at hs hs2
      show nx (pl k + 1) = k + 1 + 2 + (nx (pl k + 1)).log2
      rw [nx_yes hp, hs2, hs]; omega
theorem pl_small {k : Nat} (h : k < 32768) : pl k < 65536 := by
  have h1 := pl_log k
  rcases Nat.lt_or_ge (pl k) 65536 with h2 | h2
  · exact h2
  · have h3 : 2 ^ (pl k).log2 ≤ pl k := Nat.log2_self_le (by omega)
    rcases Nat.lt_or_ge (pl k).log2 2 with h4 | h4
    · omega
    · obtain ⟨M, hM⟩ : ∃ M, (pl k).log2 = M + 2 := ⟨_, (Nat.sub_add_cancel h4).symm⟩
      have h5 : M < 2 ^ M := Nat.lt_two_pow_self
      rw [hM, Nat.pow_add] at h3
      omega
theorem pl_all {s : Nat} (h3 : 3 ≤ s) (hp : pw s = false) : ∃ k, pl k = s := by
  have : ∀ n, n ≤ s → ∃ k, nx (pl k) = pl k ∧ (pl k = s ∨ (pl k ≤ s ∧ n ≤ pl k)) := by
    intro n
    induction n with
    | zero => intro _; exact ⟨0, nx_no (pl_np 0), .inr ⟨by show 3 ≤ s; exact h3, by omega⟩⟩
    | succ n ih =>
      intro hn
      obtain ⟨k, h0, h1⟩ := ih (by omega)
      rcases h1 with h1 | ⟨h1, h2⟩
      · exact ⟨k, h0, .inl h1⟩
      · rcases Nat.lt_or_ge n (pl k) with h4 | h4
        · exact ⟨k, h0, .inr ⟨h1, h4⟩⟩
        · have e : pl k = n := by omega
          refine ⟨k + 1, nx_no (pl_np _), ?_⟩
          show nx (pl k + 1) = s ∨ (nx (pl k + 1) ≤ s ∧ n + 1 ≤ nx (pl k + 1))
          rcases hq : pw (pl k + 1) with _ | _
          · rw [nx_no hq]; right; omega
          · rw [nx_yes hq]
            rcases (by omega : n + 1 = s ∨ n + 2 ≤ s) with e2 | e2
            · rw [e, e2, hp] at hq; cases hq
            · right; omega
  obtain ⟨k, -, h | ⟨h1, h2⟩⟩ := this s (Nat.le_refl _)
  · exact ⟨k, h⟩
  · exact ⟨k, by omega⟩

/-- the exclusive-or of the places of the bits that are 1 -/
def sx (f : Nat → Bool) : Nat → Nat
  | 0 => 0
  | q + 1 => if f q then sx f q ^^^ pl q else sx f q
/-- how many bits are 1 -/
def cn (f : Nat → Bool) : Nat → Nat
  | 0 => 0
  | q + 1 => if f q then cn f q + 1 else cn f q
/-- how many of the lower digits are 1 -/
def on (x : Nat) : Nat → Nat
  | 0 => 0
  | i + 1 => on x i + (x.testBit i).toNat

def tw (f : Nat → Bool) (k : Nat) (j : Nat) : Bool := if j = k then !f j else f j
theorem sx_small (f : Nat → Bool) (q : Nat) (h : q ≤ 32768) : sx f q < 65536 := by
  induction q with
  | zero => show 0 < 65536; decide
  | succ q ih =>
    unfold sx
    split
    · exact Nat.xor_lt_two_pow (n := 16) (ih (by omega)) (pl_small (by omega))
    · exact ih (by omega)
theorem cn_le (f : Nat → Bool) (q : Nat) : cn f q ≤ q := by
  induction q with
  | zero => show 0 ≤ 0; decide
  | succ q ih => unfold cn; split <;> omega
theorem xrc (a b c : Nat) : (a ^^^ b) ^^^ c = (a ^^^ c) ^^^ b := by rw [Nat.xor_assoc, Nat.xor_comm b c, ← Nat.xor_assoc]
theorem xss (a b : Nat) : (a ^^^ b) ^^^ b = a := by rw [Nat.xor_assoc, Nat.xor_self, Nat.xor_zero]
theorem xsl (a b : Nat) : a ^^^ (a ^^^ b) = b := by rw [← Nat.xor_assoc, Nat.xor_self, Nat.zero_xor]
theorem sx_tw (f : Nat → Bool) (k q : Nat) : sx (tw f k) q = if k < q then sx f q ^^^ pl k else sx f q := by
  induction q with
  | zero => simp [sx]
  | succ q ih =>
    show (if tw f k q = true then sx (tw f k) q ^^^ pl q else sx (tw f k) q) = if k < q + 1 then (if f q = true then sx f q ^^^ pl q else sx f q) ^^^ pl k else (if f q = true then sx f q ^^^ pl q else sx f q)
    rw [ih]
    by_cases h : q = k
    · subst h
      have e : tw f q q = !f q := by unfold tw; rw [if_pos rfl]
      rw [e, if_neg (Nat.lt_irrefl q), if_pos (Nat.lt_succ_self q)]
      cases f q <;> simp [xss]
    · have e : tw f k q = f q := by unfold tw; rw [if_neg h]
      rw [e]
      by_cases h2 : k < q
      · rw [if_pos h2, if_pos (by omega : k < q + 1)]
        cases f q
        · rfl
        · exact xrc _ _ _
      · rw [if_neg h2, if_neg (by omega : ¬ k < q + 1)]
theorem cn_tw (f : Nat → Bool) (k q : Nat) : cn (tw f k) q % 2 = if k < q then (cn f q + 1) % 2 else cn f q % 2 := by
  induction q with
  | zero => simp [cn]
  | succ q ih =>
    show (if tw f k q = true then cn (tw f k) q + 1 else cn (tw f k) q) % 2 = if k < q + 1 then ((if f q = true then cn f q + 1 else cn f q) + 1) % 2 else (if f q = true then cn f q + 1 else cn f q) % 2
    by_cases h : q = k
    · subst h
      have e : tw f q q = !f q := by unfold tw; rw [if_pos rfl]
      rw [if_neg (Nat.lt_irrefl q)] at ih
      rw [e, if_pos (Nat.lt_succ_self q)]
      cases f q <;> simp <;> omega
    · have e : tw f k q = f q := by unfold tw; rw [if_neg h]
      rw [e]
      by_cases h2 : k < q
      · rw [if_pos h2] at ih
        rw [if_pos (by omega : k < q + 1)]
        cases f q <;> simp <;> omega
      · rw [if_neg h2] at ih
        rw [if_neg (by omega : ¬ k < q + 1)]
        cases f q <;> simp <;> omega
theorem on_xor (x y n : Nat) : on (x ^^^ y) n % 2 = (on x n + on y n) % 2 := by
  induction n with
  | zero => rfl
  | succ n ih =>
    unfold on
    rw [Nat.testBit_xor]
    cases x.testBit n <;> cases y.testBit n <;> simp <;> omega
theorem on_pow (i n : Nat) : on (2 ^ i) n = if i < n then 1 else 0 := by
  induction n with
  | zero => rfl
  | succ n ih =>
    unfold on
    rw [ih, Nat.testBit_two_pow]
    by_cases h : i = n
    · subst h; simp
    · by_cases h2 : i < n
      · rw [if_pos h2, if_pos (by omega)]; simp [h]
      · rw [if_neg h2, if_neg (by omega)]; simp [h]
theorem on_small {x i : Nat} (h : x < 2 ^ i) : ∀ n, i ≤ n → on x n = on x i := by
  intro n
  induction n with
  | zero => intro hn; have : i = 0 := by omega
            subst this; rfl
  | succ n ih =>
    intro hn
    rcases (by omega : i = n + 1 ∨ i ≤ n) with rfl | h2
    · rfl
    · show on x n + (x.testBit n).toNat = on x i
      rw [ih h2]
      have : x.testBit n = false := Nat.testBit_lt_two_pow (Nat.lt_of_lt_of_le h (Nat.pow_le_pow_right (by decide) h2))
      rw [this]; rfl
theorem on_mod (x i : Nat) : ∀ n, n ≤ i → on (x % 2 ^ i) n = on x n := by
  intro n
  induction n with
  | zero => intro _; rfl
  | succ n ih =>
    intro hn
    unfold on
    rw [ih (by omega), Nat.testBit_mod_two_pow]
    simp [show n < i by omega]
/-- a code's digits -/
theorem on_17 {x d : Nat} (hx : x < 65536) (hd : d < 2) : on (x + 65536 * d) 17 = on x 17 + d := by
  have e1 : on (x + 65536 * d) 17 = on (x + 65536 * d) 16 + ((x + 65536 * d).testBit 16).toNat := rfl
  have e2 : on (x + 65536 * d) 16 = on x 16 := by
    rw [← on_mod _ 16 16 (Nat.le_refl _), show (x + 65536 * d) % 2 ^ 16 = x by omega]
  have e3 : on x 17 = on x 16 := on_small (i := 16) (by omega) 17 (by decide)
  rw [e1, e2, e3, Nat.testBit_eq_decide_div_mod_eq]
  have : (x + 65536 * d) / 2 ^ 16 = d := by omega
  rw [this]
  rcases (by omega : d = 0 ∨ d = 1) with rfl | rfl <;> rfl

/-- the code of a block whose bits these are -/
def cd (f : Nat → Bool) (n : Nat) : Nat := sx f n + 65536 * ((cn f n + on (sx f n) 17) % 2)
def sy (f : Nat → Bool) (n c : Nat) : Nat := sx f n ^^^ (c % 65536)
def qu (f : Nat → Bool) (n c : Nat) : Nat := (cn f n + on c 17) % 2
def fnd (n s : Nat) : Option Nat := (List.range n).find? (fun k => pl k == s)
/-- what comes of mending: -1 whole, -2 a hurt code, a bit; none: it can't be -/
def mr (n s q : Nat) : Option Int := if s = 0 ∧ q = 0 then some (-1) else if q = 1 ∧ (s = 0 ∨ pw s = true) then some (-2) else if q = 1 then (fnd n s).map Int.ofNat else none
def mn (f : Nat → Bool) (n c : Nat) : Option Int := mr n (sy f n c) (qu f n c)

theorem cd_lt (f : Nat → Bool) {n : Nat} (h : n ≤ 32768) : cd f n < 131072 := by have := sx_small f n h; unfold cd; omega
theorem cd_low (f : Nat → Bool) {n : Nat} (h : n ≤ 32768) : cd f n % 65536 = sx f n := by have := sx_small f n h; unfold cd; omega
theorem cd_on (f : Nat → Bool) {n : Nat} (h : n ≤ 32768) : (cn f n + on (cd f n) 17) % 2 = 0 := by
  have := sx_small f n h
  unfold cd
  rw [on_17 this (by omega)]
  omega
theorem fnd_pl {n k : Nat} (h : k < n) : fnd n (pl k) = some k := by
  unfold fnd
  rw [List.find?_range_eq_some]
  exact ⟨by simp, by simpa using h, fun j hj => by simp; intro e; have := pl_inj e; omega⟩
theorem fnd_some {n s k : Nat} (h : fnd n s = some k) : k < n ∧ pl k = s := by
  unfold fnd at h
  rw [List.find?_range_eq_some] at h
  obtain ⟨h1, h2, -⟩ := h
  exact ⟨by simpa using h2, by simpa using h1⟩
theorem fnd_none {n s : Nat} (h : fnd n s = none) : ∀ k, k < n → pl k ≠ s := by
  unfold fnd at h
  rw [List.find?_range_eq_none] at h
  intro k hk e
  have := h k hk
  simp [e] at this
theorem mn_own (f : Nat → Bool) {n : Nat} (h : n ≤ 32768) : mn f n (cd f n) = some (-1) := by
  unfold mn mr sy qu
  rw [cd_low f h, cd_on f h, Nat.xor_self]; rfl
theorem mn_bit (f : Nat → Bool) {n k : Nat} (h : n ≤ 32768) (hk : k < n) : mn (tw f k) n (cd f n) = some (k : Int) := by
  unfold mn mr sy qu
  have e1 : sx (tw f k) n ^^^ (cd f n % 65536) = pl k := by rw [cd_low f h, sx_tw, if_pos hk, xrc, Nat.xor_self, Nat.zero_xor]
  have e2 : (cn (tw f k) n + on (cd f n) 17) % 2 = 1 := by
    have a := cn_tw f k n
    have b := cd_on f h
    rw [if_pos hk] at a
    omega
  rw [e1, e2, fnd_pl hk]
  have h3 := pl_ge k
  have h4 := pl_np k
  rw [if_neg (by omega), if_neg (by rw [h4]; simp; omega), if_pos rfl]
  rfl
theorem low_pow (c i : Nat) : (c ^^^ 2 ^ i) % 65536 = (c % 65536) ^^^ (if i < 16 then 2 ^ i else 0) := by
  apply Nat.eq_of_testBit_eq
  intro j
  rw [show (65536 : Nat) = 2 ^ 16 from rfl, Nat.testBit_mod_two_pow, Nat.testBit_xor, Nat.testBit_xor, Nat.testBit_mod_two_pow, Nat.testBit_two_pow]
  by_cases h : i < 16
  · rw [if_pos h, Nat.testBit_two_pow]
    by_cases hj : j < 16
    · simp [hj]
    · have : ¬ i = j := by omega
      simp [hj, this]
  · rw [if_neg h]
    by_cases hj : j < 16
    · have : ¬ i = j := by omega
      simp [hj, this]
    · simp [hj]
theorem mn_code (f : Nat → Bool) {n i : Nat} (h : n ≤ 32768) (hi : i < 17) : mn f n (cd f n ^^^ 2 ^ i) = some (-2) := by
  unfold mn mr sy qu
  have e1 : sx f n ^^^ ((cd f n ^^^ 2 ^ i) % 65536) = if i < 16 then 2 ^ i else 0 := by rw [low_pow, cd_low f h, xsl]
  have e2 : (cn f n + on (cd f n ^^^ 2 ^ i) 17) % 2 = 1 := by
    have a := on_xor (cd f n) (2 ^ i) 17
    have b := cd_on f h
    rw [on_pow, if_pos hi] at a
    omega
  rw [e1, e2]
  by_cases h2 : i < 16
  · rw [if_pos h2, if_neg (by simp), if_pos ⟨rfl, .inr (pw_iff.2 ⟨_, rfl⟩)⟩]
  · rw [if_neg h2, if_neg (by simp), if_pos ⟨rfl, .inl rfl⟩]

/-- what the hurt of a bit or a digit comes to -/
def hs (n k : Nat) : Nat := if k < n then pl k else if k - n < 16 then 2 ^ (k - n) else 0
def hf (f : Nat → Bool) (n k : Nat) : Nat → Bool := if k < n then tw f k else f
def hc (c n k : Nat) : Nat := if k < n then c else c ^^^ 2 ^ (k - n)
theorem hs_ne {n j k : Nat} (h : j ≠ k) (hj : j < n + 17) (hk : k < n + 17) : hs n j ≠ hs n k := by
  unfold hs
  have a1 := pl_ge j
  have a2 := pl_ge k
  have p : ∀ i, 0 < 2 ^ i := fun i => Nat.two_pow_pos i
  by_cases h1 : j < n <;> by_cases h2 : k < n
  · rw [if_pos h1, if_pos h2]; exact fun e => h (pl_inj e)
  · rw [if_pos h1, if_neg h2]
    split
    · exact pw_no (pl_np j) _
    · omega
  · rw [if_neg h1, if_pos h2]
    split
    · exact fun e => pw_no (pl_np k) _ e.symm
    · omega
  · rw [if_neg h1, if_neg h2]
    have := p (j - n)
    have := p (k - n)
    split <;> split
    · intro e
      have := Nat.pow_right_inj (by decide : 1 < 2) |>.1 e
      omega
    all_goals omega
theorem sy_hurt (f : Nat → Bool) (n c k : Nat) : sy (hf f n k) n (hc c n k) = sy f n c ^^^ hs n k := by
  unfold sy hf hc hs
  by_cases h : k < n
  · rw [if_pos h, if_pos h, if_pos h, sx_tw, if_pos h, xrc]
  · rw [if_neg h, if_neg h, if_neg h, low_pow, Nat.xor_assoc]
theorem qu_hurt (f : Nat → Bool) (n c k : Nat) (hk : k < n + 17) : qu (hf f n k) n (hc c n k) = (qu f n c + 1) % 2 := by
  unfold qu hf hc
  by_cases h : k < n
  · have a := cn_tw f k n
    rw [if_pos h] at a
    rw [if_pos h, if_pos h]
    omega
  · have a := on_xor c (2 ^ (k - n)) 17
    rw [on_pow, if_pos (by omega)] at a
    rw [if_neg h, if_neg h]
    omega
theorem mn_two (f : Nat → Bool) {n j k : Nat} (h : n ≤ 32768) (hj : j < n + 17) (hk : k < n + 17) (hne : j ≠ k) : mn (hf (hf f n j) n k) n (hc (hc (cd f n) n j) n k) = none := by
  unfold mn
  rw [sy_hurt, sy_hurt, qu_hurt _ _ _ _ hk, qu_hurt _ _ _ _ hj]
  have e1 : sy f n (cd f n) = 0 := by unfold sy; rw [cd_low f h, Nat.xor_self]
  have e2 : qu f n (cd f n) = 0 := by unfold qu; rw [cd_on f h]
  rw [e1, e2, Nat.zero_xor]
  have e3 : hs n j ^^^ hs n k ≠ 0 := by
    intro e
    have : (hs n j ^^^ hs n k) ^^^ hs n k = hs n k := by rw [e, Nat.zero_xor]
    rw [xss] at this
    exact hs_ne hne hj hk this
  unfold mr
  rw [if_neg (by simp [e3]), if_neg (by simp), if_neg (by simp)]
theorem hc_lt {c n k : Nat} (hc0 : c < 131072) (hk : k < n + 17) : hc c n k < 131072 := by
  unfold hc
  split
  · exact hc0
  · exact Nat.xor_lt_two_pow (n := 17) hc0 ((Nat.pow_lt_pow_iff_right (by decide)).2 (by omega))

end Eccm
