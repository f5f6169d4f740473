/-
  Plain facts on numbers in bytes, the least one first, and on a page's bytes. Nothing of the program stands here.
-/
import Derived.Test.YtbfifppdcmimaaaGreatKA
namespace Tagm
open Crcm

/-- a number in so many bytes -/
def le : Nat → Int → List Int
  | 0, _ => []
  | n + 1, x => x % 256 :: le n (x / 256)
/-- the number of bytes -/
def nu : List Int → Int
  | [] => 0
  | b :: l => b + 256 * nu l

theorem le_length (n : Nat) : ∀ x, (le n x).length = n := by
  induction n with
  | zero => intro x; rfl
  | succ n ih => intro x; simp [le, ih]
theorem le_U8 (n : Nat) : ∀ x, ∀ b ∈ le n x, U8 b := by
  induction n with
  | zero => intro x b hb; cases hb
  | succ n ih =>
    intro x b hb
    simp only [le, List.mem_cons] at hb
    rcases hb with rfl | hb
    · unfold U8; omega
    · exact ih _ b hb
theorem le_snoc (n : Nat) : ∀ x, le (n + 1) x = le n x ++ [x / 256 ^ n % 256] := by
  induction n with
  | zero => intro x; simp [le]
  | succ n ih =>
    intro x
    rw [le, ih, le, List.cons_append]
    congr 3
    rw [Int.ediv_ediv_of_nonneg (by decide), Int.pow_succ, Int.mul_comm]
theorem nu_le (n : Nat) : ∀ x, nu (le n x) = x % 256 ^ n := by
  induction n with
  | zero => intro x; simp [le, nu]
  | succ n ih =>
    intro x
    rw [le, nu, ih]
    have h := Int.emod_add_mul_ediv x 256
    have hp : (0 : Int) < 256 ^ n := Int.pow_pos (by decide)
    have h2 := Int.emod_add_mul_ediv (x / 256) (256 ^ n)
    have h3 : x = (x % 256 + 256 * (x / 256 % 256 ^ n)) + 256 ^ (n + 1) * (x / 256 / 256 ^ n) := by
      rw [Int.pow_succ]
      have : (256 ^ n * 256 : Int) * (x / 256 / 256 ^ n) = 256 * (256 ^ n * (x / 256 / 256 ^ n)) := by
        rw [Int.mul_comm (256 ^ n : Int) 256, Int.mul_assoc]
      rw [this]
      omega
    have b1 := Int.emod_nonneg x (show (256 : Int) ≠ 0 by decide)
    have b2 := Int.emod_lt_of_pos x (show (0 : Int) < 256 by decide)
    have b3 := Int.emod_nonneg (x / 256) (show (256 ^ n : Int) ≠ 0 by omega)
    have b4 := Int.emod_lt_of_pos (x / 256) hp
    generalize x % 256 = a at *
    generalize x / 256 % 256 ^ n = c at *
    have hb : a + 256 * c < 256 ^ (n + 1) := by rw [Int.pow_succ]; omega
    rw [h3, Int.add_mul_emod_self_left, Int.emod_eq_of_lt (by omega) hb]
theorem nu_snoc (b : Int) : ∀ l, nu (l ++ [b]) = nu l + 256 ^ l.length * b := by
  intro l
  induction l with
  | nil => simp [nu]
  | cons a l ih => rw [List.cons_append, nu, ih, nu, List.length_cons, Int.pow_succ, Int.mul_add, Int.mul_comm (256 ^ l.length : Int) 256, Int.mul_assoc, Int.add_assoc]
theorem nu_bd : ∀ l : List Int, (∀ b ∈ l, U8 b) → 0 ≤ nu l ∧ nu l < 256 ^ l.length := by
  intro l
  induction l with
  | nil => intro _; simp [nu]
  | cons a l ih =>
    intro h
    have h1 := ih fun b hb => h b (by simp [hb])
    obtain ⟨a0, a1⟩ := h a (by simp)
    rw [nu, List.length_cons, Int.pow_succ]
    omega
theorem le_nu : ∀ l : List Int, (∀ b ∈ l, U8 b) → le l.length (nu l) = l := by
  intro l
  induction l with
  | nil => intro _; rfl
  | cons a l ih =>
    intro h
    obtain ⟨a0, a1⟩ := h a (by simp)
    rw [List.length_cons, le, nu]
    have e1 : (a + 256 * nu l) % 256 = a := by omega
    have e2 : (a + 256 * nu l) / 256 = nu l := by omega
    rw [e1, e2, ih fun b hb => h b (by simp [hb])]

/-- a tag is right -/
def Rt (k p s e : Int) : Prop := (k = 1 ∨ k = 2) ∧ (0 ≤ p ∧ p < 8192) ∧ (1 ≤ s ∧ s < 4611686018427387904) ∧ (1 ≤ e ∧ e < 4611686018427387904)
instance (k p s e : Int) : Decidable (Rt k p s e) := by unfold Rt; infer_instance
/-- a payload may have so many bytes -/
def Sz (n : Int) : Prop := n = 64 ∨ n = 128 ∨ n = 256 ∨ n = 512
instance (n : Int) : Decidable (Sz n) := by unfold Sz; infer_instance

/-- what stands ahead of the sum -/
def hd (k p s e : Int) : List Int := [67, 85, k % 256, 0] ++ le 4 p ++ le 8 s ++ le 8 e
theorem hd_length (k p s e : Int) : (hd k p s e).length = 24 := by simp [hd, le_length]
theorem hd_U8 (k p s e : Int) : ∀ b ∈ hd k p s e, U8 b := by
  intro b hb
  unfold hd at hb
  rcases List.mem_append.1 hb with hb | hb
  · rcases List.mem_append.1 hb with hb | hb
    · rcases List.mem_append.1 hb with hb | hb
      · simp at hb
        unfold U8
        omega
      · exact le_U8 _ _ b hb
    · exact le_U8 _ _ b hb
  · exact le_U8 _ _ b hb

/-- the sum of bytes (what the walks' calls of Sum come to) -/
def sm (l : List Int) : Int := N (~~~ F (~~~ V 0) (l.map V))
theorem sm_U32 (l : List Int) : U32 (sm l) := U32_N _

/-- a page's bytes -/
def pg (k p s e : Int) (z : List Int) : List Int := z ++ hd k p s e ++ le 4 (sm (z ++ hd k p s e)) ++ [0, 0, 0, 0]
theorem pg_length (k p s e : Int) (z : List Int) : (pg k p s e z).length = z.length + 32 := by simp [pg, hd_length, le_length]
theorem pg_U8 (k p s e : Int) (z : List Int) (hz : ∀ b ∈ z, U8 b) : ∀ b ∈ pg k p s e z, U8 b := by
  intro b hb
  unfold pg at hb
  rcases List.mem_append.1 hb with hb | hb
  · rcases List.mem_append.1 hb with hb | hb
    · rcases List.mem_append.1 hb with hb | hb
      · exact hz b hb
      · exact hd_U8 _ _ _ _ b hb
    · exact le_U8 _ _ b hb
  · simp at hb; subst hb; unfold U8; omega

/-- what stands beside a payload of so many bytes: the kind, the page, the two numbers -/
def tk (n : Nat) (l : List Int) : Int := l.getD (n + 2) 0
def tp (n : Nat) (l : List Int) : Int := nu ((l.drop (n + 4)).take 4)
def ts (n : Nat) (l : List Int) : Int := nu ((l.drop (n + 8)).take 8)
def te (n : Nat) (l : List Int) : Int := nu ((l.drop (n + 16)).take 8)

theorem pg_flat (k p s e : Int) (z : List Int) : pg k p s e z = z ++ ([67, 85, k % 256, 0] ++ (le 4 p ++ (le 8 s ++ (le 8 e ++ (le 4 (sm (z ++ hd k p s e)) ++ [0, 0, 0, 0]))))) := by
  simp [pg, hd]
theorem drop_at {l m : List Int} {n : Nat} (h : n = l.length) : (l ++ m).drop n = m := by subst h; simp
theorem take_at {l m : List Int} {n : Nat} (h : n = l.length) : (l ++ m).take n = l := by subst h; simp

theorem pg_take (k p s e : Int) (z : List Int) : (pg k p s e z).take z.length = z := by rw [pg_flat, take_at rfl]
theorem pg_tk (k p s e : Int) (z : List Int) : tk z.length (pg k p s e z) = k % 256 := by
  unfold tk
  rw [pg_flat]
  simp [List.getD_eq_getElem?_getD]
theorem pg_tp (k p s e : Int) (z : List Int) : tp z.length (pg k p s e z) = p % 4294967296 := by
  unfold tp
  rw [pg_flat, ← List.append_assoc z, drop_at (by simp), take_at (by rw [le_length]), nu_le]
  rfl
theorem pg_ts (k p s e : Int) (z : List Int) : ts z.length (pg k p s e z) = s % 18446744073709551616 := by
  unfold ts
  rw [pg_flat, ← List.append_assoc z, ← List.append_assoc (z ++ _), drop_at (by simp [le_length]), take_at (by rw [le_length]), nu_le]
  rfl
theorem pg_te (k p s e : Int) (z : List Int) : te z.length (pg k p s e z) = e % 18446744073709551616 := by
  unfold te
  rw [pg_flat, ← List.append_assoc z, ← List.append_assoc (z ++ _), ← List.append_assoc (z ++ _ ++ _), drop_at (by simp [le_length]), take_at (by rw [le_length]), nu_le]
  rfl

/-- these bytes are those of an erased page -/
def Er (l : List Int) : Prop := ∀ b ∈ l, b = 255
instance (l : List Int) : Decidable (Er l) := by unfold Er; infer_instance
/-- these bytes are a page's, of a payload of n -/
def Vl (n : Nat) (l : List Int) : Prop := Rt (tk n l) (tp n l) (ts n l) (te n l) ∧ pg (tk n l) (tp n l) (ts n l) (te n l) (l.take n) = l
instance (n : Nat) (l : List Int) : Decidable (Vl n l) := by unfold Vl; infer_instance

theorem Rt.same {k p s e : Int} (h : Rt k p s e) : k % 256 = k ∧ p % 4294967296 = p ∧ s % 18446744073709551616 = s ∧ e % 18446744073709551616 = e := by
  obtain ⟨h1, h2, h3, h4⟩ := h
  refine ⟨?_, ?_, ?_, ?_⟩ <;> omega

/-- what is written is a page -/
theorem Vl_pg {k p s e : Int} (z : List Int) (h : Rt k p s e) :
    tk z.length (pg k p s e z) = k ∧ tp z.length (pg k p s e z) = p ∧ ts z.length (pg k p s e z) = s ∧ te z.length (pg k p s e z) = e ∧ Vl z.length (pg k p s e z) := by
  obtain ⟨e1, e2, e3, e4⟩ := h.same
  have h1 := (pg_tk k p s e z).trans e1
  have h2 := (pg_tp k p s e z).trans e2
  have h3 := (pg_ts k p s e z).trans e3
  have h4 := (pg_te k p s e z).trans e4
  refine ⟨h1, h2, h3, h4, ?_⟩
  unfold Vl
  rw [h1, h2, h3, h4, pg_take]
  exact ⟨h, rfl⟩

theorem pg_not_Er (k p s e : Int) (z : List Int) : ¬ Er (pg k p s e z) := by
  intro h
  have := h 67 (by rw [pg_flat]; simp)
  omega
theorem Vl_not_Er {n : Nat} {l : List Int} (h : Vl n l) : ¬ Er l := by
  rw [← h.2]
  exact pg_not_Er _ _ _ _ _

/-- the last byte of a page is 0 -/
theorem Vl_last {n : Nat} {l : List Int} (h : Vl n l) (i : Nat) (hi : i < 4) : l.getD (l.length - 1 - i) 1 = 0 := by
  have e := h.2
  generalize tk n l = k, tp n l = p, ts n l = s, te n l = t at e
  rw [← e]
  unfold pg
  generalize l.take n ++ hd k p s t ++ le 4 (sm (l.take n ++ hd k p s t)) = m
  have hl : (m ++ [0, 0, 0, 0]).length - 1 - i = m.length + (3 - i) := by simp; omega
  rw [hl, List.getD_eq_getElem?_getD, List.getElem?_append_right (by omega)]
  rcases (by omega : i = 0 ∨ i = 1 ∨ i = 2 ∨ i = 3) with rfl | rfl | rfl | rfl <;> simp

end Tagm
