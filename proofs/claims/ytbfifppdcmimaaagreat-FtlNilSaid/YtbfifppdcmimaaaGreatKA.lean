/-
  A region that draws its order, whose operations only read and whose callees at most make new memory: one walk in the order of the text serves every order.
-/
import Derived.Test.YtbfifppdcmimaaaGreatRows
import Derived.Test.YtbfifppdcmimaaaGreatProg
import Derived.WalkKit
import Derived.Deep.QuietTactic
import Derived.BigQuiet
import Derived.Laws.BitsAllLaws
import Derived.Lib.Hide
import Derived.Outline
import Derived.OpenShut
import Derived.Laws.AppendOwnNone
import Derived.Laws.BytesArg
import Derived.Laws.Rows
import Derived.Below
namespace Go
open Go.RowKit

/-- a world that may be met later: what was there is as it was -/
structure Later (w : World) where
  to : World
  bel : Below w.heap.size w to

instance (w : World) : Nonempty (Later w) := ⟨⟨w, Below.refl _ _⟩⟩

theorem wp_region_later {P : Program} {id : Nat} {Q : Exit → Act → World → Prop} {a : Act} {w : World} {l : List Oper} (hm : P.follows .mixedOrders = true) (hB : Region.lexB .any l.toArray = true)
    (h : wpQuiet P l.toArray (fun w' => ∃ n : Later w, w' = n.to) (fun a' => ∀ w', (∃ n : Later w, w' = n.to) → Q .normal a' w') l a) : (Code.region id l.toArray true).wp P Q a w :=
  wp_region_quiet (C := fun w' => ∃ n : Later w, w' = n.to) hm hB ⟨⟨w.drew, (Below.refl _ _).drew⟩, rfl⟩ (by simpa using h)

theorem later_same {P : Program} {f : FuncId} {args : Array Value} {w : World} {n : Later w} {v : Value}
    (h : Calls P f args n.to fun e w' => e = .returned v ∧ n.to = w') : Calls P f args n.to fun e w'' => e = .returned v ∧ ∃ m : Later w, w'' = m.to :=
  h.mono fun _ _ ⟨he, hw⟩ => ⟨he, n, hw.symm⟩

theorem later_below {P : Program} {f : FuncId} {args : Array Value} {w : World} {n : Later w} {v : Value}
    (h : Calls P f args n.to fun e w' => e = .returned v ∧ Below n.to.heap.size n.to w') : Calls P f args n.to fun e w'' => e = .returned v ∧ ∃ m : Later w, w'' = m.to :=
  h.mono fun _ w' ⟨he, hw⟩ => ⟨he, ⟨w', n.bel.trans (hw.mono n.bel.size)⟩, rfl⟩

end Go


/-
  Plain facts on the digits of a remainder: a step, steps one behind the other, rows of bytes, columns. Nothing of the program stands here.
-/
namespace Crcm

/-- a remainder's step over one digit -/
def st (r : BitVec 32) : BitVec 32 := (r >>> 1) ^^^ (if r.getLsbD 0 then 0xEDB88320#32 else 0#32)

def it : Nat → BitVec 32 → BitVec 32
  | 0, r => r
  | n + 1, r => it n (st r)

theorem xlc (a b c : BitVec 32) : a ^^^ (b ^^^ c) = b ^^^ (a ^^^ c) := by rw [← BitVec.xor_assoc, BitVec.xor_comm a b, BitVec.xor_assoc]
theorem xss (a b : BitVec 32) : a ^^^ (a ^^^ b) = b := by rw [← BitVec.xor_assoc, BitVec.xor_self, BitVec.zero_xor]

theorem st_zero : st 0#32 = 0#32 := by decide

theorem st_xor (a b : BitVec 32) : st (a ^^^ b) = st a ^^^ st b := by
  unfold st
  rw [BitVec.ushiftRight_xor_distrib, BitVec.getLsbD_xor]
  cases a.getLsbD 0 <;> cases b.getLsbD 0 <;> simp [BitVec.xor_assoc, xlc, BitVec.xor_comm]

theorem it_xor (n : Nat) : ∀ a b : BitVec 32, it n (a ^^^ b) = it n a ^^^ it n b := by
  induction n with
  | zero => intro a b; rfl
  | succ n ih => intro a b; simp only [it]; rw [st_xor, ih]

theorem it_zero (n : Nat) : it n 0#32 = 0#32 := by
  induction n with
  | zero => rfl
  | succ n ih => simp only [it]; rw [st_zero, ih]

theorem it_add (m n : Nat) : ∀ r, it (m + n) r = it n (it m r) := by
  induction m with
  | zero => intro r; simp [it]
  | succ m ih => intro r; rw [Nat.succ_add]; simp only [it]; rw [ih]

theorem it_succ (n : Nat) (r : BitVec 32) : it (n + 1) r = st (it n r) := by rw [it_add n 1]; rfl

theorem xor_self_eq {a b : BitVec 32} (h : a ^^^ b = 0#32) : a = b := by
  have : a ^^^ b ^^^ b = 0#32 ^^^ b := by rw [h]
  simpa [BitVec.xor_assoc] using this

theorem st_none {r : BitVec 32} (h : st r = 0#32) : r = 0#32 := by
  unfold st at h
  cases hb : r.getLsbD 0 with
  | true =>
    rw [hb] at h
    simp only [if_true] at h
    have e := xor_self_eq h
    have e2 : (r >>> 1).getLsbD 31 = (0xEDB88320#32).getLsbD 31 := by rw [e]
    rw [BitVec.getLsbD_ushiftRight] at e2
    simp at e2
  | false =>
    rw [hb] at h
    simp at h
    apply BitVec.eq_of_getLsbD_eq
    intro i hi
    cases i with
    | zero => rw [hb]; simp
    | succ i =>
      have e2 : (r >>> 1).getLsbD i = (0#32).getLsbD i := by rw [h]
      rw [BitVec.getLsbD_ushiftRight, Nat.add_comm] at e2
      rw [e2]; simp

theorem it_none (n : Nat) : ∀ {r : BitVec 32}, it n r = 0#32 → r = 0#32 := by
  induction n with
  | zero => intro r h; exact h
  | succ n ih => intro r h; exact st_none (ih h)

/-- a remainder behind a row of bytes -/
def F (r : BitVec 32) (l : List (BitVec 32)) : BitVec 32 := l.foldl (fun r b => it 8 (r ^^^ b)) r

theorem F_nil (r : BitVec 32) : F r [] = r := rfl
theorem F_cons (r b : BitVec 32) (l : List (BitVec 32)) : F r (b :: l) = F (it 8 (r ^^^ b)) l := rfl
theorem F_append (r : BitVec 32) (l m : List (BitVec 32)) : F r (l ++ m) = F (F r l) m := by unfold F; rw [List.foldl_append]
theorem F_snoc (r b : BitVec 32) (l : List (BitVec 32)) : F r (l ++ [b]) = it 8 (F r l ^^^ b) := by rw [F_append]; rfl

theorem F_xor : ∀ (l m : List (BitVec 32)) (r s : BitVec 32), l.length = m.length → F (r ^^^ s) (List.zipWith (· ^^^ ·) l m) = F r l ^^^ F s m := by
  intro l
  induction l with
  | nil => intro m r s h; cases m with | nil => rfl | cons _ _ => simp at h
  | cons b l ih =>
    intro m r s h
    cases m with
    | nil => simp at h
    | cons c m =>
      simp only [List.zipWith_cons_cons, F_cons]
      rw [← ih m _ _ (by simpa using h), ← it_xor]
      congr 2
      rw [BitVec.xor_assoc, BitVec.xor_assoc, xlc s b c]

theorem F_zeros (n : Nat) : ∀ r, F r (List.replicate n 0#32) = it (8 * n) r := by
  induction n with
  | zero => intro r; rfl
  | succ n ih => intro r; rw [List.replicate_succ, F_cons, ih, BitVec.xor_zero, ← it_add]; congr 1; omega

theorem F_from (l : List (BitVec 32)) (r : BitVec 32) : F r l = it (8 * l.length) r ^^^ F 0#32 l := by
  rw [← F_zeros, ← F_xor _ _ _ _ (by simp), BitVec.xor_zero]
  congr 1
  apply List.ext_getElem
  · simp
  · intro i h1 h2; simp

/-- a row of bytes as one number, the least first -/
def pk : List (BitVec 32) → BitVec 32
  | [] => 0#32
  | b :: l => b ^^^ (pk l <<< 8)

theorem st_shl (y : BitVec 32) (k : Nat) (h : y.toNat * 2 ^ (k + 1) < 2 ^ 32) : st (y <<< (k + 1)) = y <<< k := by
  unfold st
  have h0 : (y <<< (k + 1)).getLsbD 0 = false := by simp
  rw [h0]
  simp only [Bool.false_eq_true, if_false, BitVec.xor_zero]
  apply BitVec.eq_of_toNat_eq
  have h2 : y.toNat * 2 ^ k < 2 ^ 32 := Nat.lt_of_le_of_lt (Nat.mul_le_mul_left _ (Nat.pow_le_pow_right (by decide) (by omega))) h
  simp only [BitVec.toNat_ushiftRight, BitVec.toNat_shiftLeft, Nat.shiftLeft_eq, Nat.shiftRight_eq_div_pow]
  rw [Nat.mod_eq_of_lt h, Nat.mod_eq_of_lt h2, Nat.pow_succ, ← Nat.mul_assoc]
  simp

theorem it8_shl (y : BitVec 32) (h : y.toNat < 2 ^ 24) : it 8 (y <<< 8) = y := by
  simp only [it]
  rw [st_shl y 7 (by omega), st_shl y 6 (by omega), st_shl y 5 (by omega), st_shl y 4 (by omega), st_shl y 3 (by omega), st_shl y 2 (by omega), st_shl y 1 (by omega), st_shl y 0 (by omega)]
  simp

theorem xor_lt (a b : Nat) (n : Nat) (ha : a < 2 ^ n) (hb : b < 2 ^ n) : a ^^^ b < 2 ^ n := Nat.xor_lt_two_pow ha hb

theorem pk_lt : ∀ (l : List (BitVec 32)), (∀ b ∈ l, b.toNat < 256) → l.length ≤ 3 → (pk l).toNat < 2 ^ (8 * l.length) := by
  intro l
  induction l with
  | nil => intro _ _; simp [pk]
  | cons b l ih =>
    intro hb hl
    simp only [List.length_cons] at hl
    have h1 := ih (fun x hx => hb x (by simp [hx])) (by omega)
    have h2 := hb b (by simp)
    simp only [pk, BitVec.toNat_xor, List.length_cons]
    apply Nat.xor_lt_two_pow
    · exact Nat.lt_of_lt_of_le h2 (by rw [show (256 : Nat) = 2 ^ 8 from rfl]; exact Nat.pow_le_pow_right (by decide) (by omega))
    · rw [BitVec.toNat_shiftLeft, Nat.shiftLeft_eq]
      have : (pk l).toNat * 2 ^ 8 < 2 ^ (8 * (l.length + 1)) := by
        rw [show 8 * (l.length + 1) = 8 * l.length + 8 by omega, Nat.pow_add]
        exact Nat.mul_lt_mul_of_pos_right h1 (by decide)
      exact Nat.lt_of_le_of_lt (Nat.mod_le _ _) this

theorem F_pk : ∀ (l : List (BitVec 32)), (∀ b ∈ l, b.toNat < 256) → l.length ≤ 4 → F 0#32 l = it (8 * l.length) (pk l) := by
  intro l
  induction l with
  | nil => intro _ _; rfl
  | cons b l ih =>
    intro hb hl
    simp only [List.length_cons] at hl
    have hl3 := pk_lt l (fun x hx => hb x (by simp [hx])) (by omega)
    have h24 : (pk l).toNat < 2 ^ 24 := Nat.lt_of_lt_of_le hl3 (Nat.pow_le_pow_right (by decide) (by omega))
    rw [F_cons, F_from, ih (fun x hx => hb x (by simp [hx])) (by omega), ← it_xor, List.length_cons, show 8 * (l.length + 1) = 8 + 8 * l.length by omega, it_add]
    congr 1
    simp only [pk]
    rw [BitVec.zero_xor, it_xor, it8_shl _ h24]

theorem pk_none : ∀ (l : List (BitVec 32)), (∀ b ∈ l, b.toNat < 256) → l.length ≤ 4 → pk l = 0#32 → ∀ b ∈ l, b = 0#32 := by
  intro l
  induction l with
  | nil => intro _ _ _ b hb; cases hb
  | cons c l ih =>
    intro hb hl h
    simp only [List.length_cons] at hl
    have hl3 := pk_lt l (fun x hx => hb x (by simp [hx])) (by omega)
    have h24 : (pk l).toNat < 2 ^ 24 := Nat.lt_of_lt_of_le hl3 (Nat.pow_le_pow_right (by decide) (by omega))
    have hc := hb c (by simp)
    have e := xor_self_eq h
    have e2 : c.toNat = (pk l <<< 8).toNat := by rw [e]
    rw [BitVec.toNat_shiftLeft, Nat.shiftLeft_eq, Nat.mod_eq_of_lt (by omega)] at e2
    have hp : pk l = 0#32 := BitVec.eq_of_toNat_eq (by show _ = 0; omega)
    have hc0 : c = 0#32 := BitVec.eq_of_toNat_eq (by show _ = 0; omega)
    intro b hb'
    rcases List.mem_cons.1 hb' with rfl | h'
    · exact hc0
    · exact ih (fun x hx => hb x (by simp [hx])) (by omega) hp b h'

theorem zip_bytes (l m : List (BitVec 32)) (hl : ∀ b ∈ l, b.toNat < 256) (hm : ∀ b ∈ m, b.toNat < 256) : ∀ b ∈ List.zipWith (· ^^^ ·) l m, b.toNat < 256 := by
  intro b hb
  obtain ⟨i, hi, rfl⟩ := List.mem_iff_getElem.1 hb
  rw [List.getElem_zipWith, BitVec.toNat_xor]
  simp only [List.length_zipWith] at hi
  exact Nat.xor_lt_two_pow (n := 8) (hl _ (List.getElem_mem (by omega))) (hm _ (List.getElem_mem (by omega)))

theorem zip_none (l m : List (BitVec 32)) (h : l.length = m.length) (h0 : ∀ b ∈ List.zipWith (· ^^^ ·) l m, b = 0#32) : l = m := by
  apply List.ext_getElem h
  intro i h1 h2
  have hi : i < (List.zipWith (· ^^^ ·) l m).length := by rw [List.length_zipWith]; omega
  have := h0 _ (List.getElem_mem hi)
  rw [List.getElem_zipWith] at this
  exact xor_self_eq this

/-- two rows of at most four bytes that leave one remainder are one -/
theorem F_inj4 (r : BitVec 32) (l m : List (BitVec 32)) (hl : ∀ b ∈ l, b.toNat < 256) (hm : ∀ b ∈ m, b.toNat < 256) (h : l.length = m.length) (h4 : l.length ≤ 4) (e : F r l = F r m) : l = m := by
  have hz := zip_bytes l m hl hm
  have hlz : (List.zipWith (· ^^^ ·) l m).length = l.length := by rw [List.length_zipWith]; omega
  have ex := F_xor l m r r h
  rw [e, BitVec.xor_self, BitVec.xor_self, F_pk _ hz (by omega)] at ex
  exact zip_none l m h (pk_none _ hz (by omega) (it_none _ ex))

theorem burst (r : BitVec 32) (l m : List (BitVec 32)) (x : List (BitVec 32)) (y : List (BitVec 32)) (hx : ∀ b ∈ x, b.toNat < 256) (h4 : x.length ≤ 4) (hy : y.length = x.length) :
    F r (l ++ y ++ m) = F r (l ++ List.zipWith (· ^^^ ·) y x ++ m) ↔ ∀ b ∈ x, b = 0#32 := by
  have e : F r (l ++ y ++ m) ^^^ F r (l ++ List.zipWith (· ^^^ ·) y x ++ m) = it (8 * m.length) (F 0#32 x) := by
    rw [F_append, F_append r _ m, F_append, F_append r l, F_from m, F_from m (F (F r l) (List.zipWith _ y x))]
    have e1 : F (F r l) (List.zipWith (· ^^^ ·) y x) = F (F r l) y ^^^ F 0#32 x := by
      have := F_xor y x (F r l) 0#32 hy
      rwa [BitVec.xor_zero] at this
    rw [e1, it_xor]
    generalize it (8 * m.length) (F (F r l) y) = p
    generalize it (8 * m.length) (F 0#32 x) = q
    generalize F 0#32 m = s
    rw [BitVec.xor_assoc, BitVec.xor_assoc, xlc s p, xss, BitVec.xor_comm q s, xss]
  constructor
  · intro h
    rw [h, BitVec.xor_self] at e
    have e2 := it_none _ e.symm
    rw [F_pk x hx h4] at e2
    exact pk_none x hx h4 (it_none _ e2)
  · intro h
    have hx0 : F 0#32 x = 0#32 := by
      have : x = List.replicate x.length 0#32 := List.eq_replicate_iff.2 ⟨rfl, h⟩
      rw [this, F_zeros, it_zero]
    rw [hx0, it_zero] at e
    exact xor_self_eq e

/-- the step as the document's other reckoning has it: the byte's digits come one by one -/
theorem other (r b : BitVec 32) (k : Nat) :
    ((it k (r ^^^ b) ^^^ (b >>> k)) >>> 1) ^^^ (if (it k (r ^^^ b) ^^^ (b >>> k) ^^^ (b >>> k)).getLsbD 0 then 0xEDB88320#32 else 0#32) = it (k + 1) (r ^^^ b) ^^^ (b >>> (k + 1)) := by
  rw [it_succ]
  rw [BitVec.xor_assoc (it k _), BitVec.xor_self, BitVec.xor_zero, BitVec.ushiftRight_xor_distrib, ← BitVec.shiftRight_add]
  unfold st
  simp only [BitVec.xor_assoc, BitVec.xor_comm]

/-- put together by exclusive-or -/
def X (g : Nat → BitVec 32) : Nat → BitVec 32
  | 0 => 0#32
  | n + 1 => X g n ^^^ g n

theorem X_it (k : Nat) (g : Nat → BitVec 32) (n : Nat) : it k (X g n) = X (fun i => it k (g i)) n := by
  induction n with
  | zero => exact it_zero k
  | succ n ih => simp only [X]; rw [it_xor, ih]

theorem X_congr {g h : Nat → BitVec 32} (n : Nat) (e : ∀ i, i < n → g i = h i) : X g n = X h n := by
  induction n with
  | zero => rfl
  | succ n ih => simp only [X]; rw [ih fun i hi => e i (by omega), e n (by omega)]

def dg (r : BitVec 32) (i : Nat) : BitVec 32 := if r.getLsbD i then BitVec.twoPow 32 i else 0#32

theorem X_bits (r : BitVec 32) (n : Nat) : ∀ j, (X (dg r) n).getLsbD j = (decide (j < n) && r.getLsbD j) := by
  induction n with
  | zero => intro j; simp [X]
  | succ n ih =>
    intro j
    simp only [X, BitVec.getLsbD_xor, ih, dg]
    by_cases h : j = n
    · subst h
      cases hb : r.getLsbD j with
      | true => have := BitVec.lt_of_getLsbD hb; simp [this]
      | false => simp
    · have h1 : decide (j < n + 1) = decide (j < n) := by simp; omega
      rw [h1]
      cases hb : r.getLsbD n with
      | true =>
        have e : decide (n = j) = false := by simp; omega
        simp [BitVec.getLsbD_twoPow, e]
      | false => simp

theorem X_all (r : BitVec 32) : X (dg r) 32 = r := by
  apply BitVec.eq_of_getLsbD_eq
  intro i hi
  rw [X_bits]; simp [hi]

/-- a step's columns: what k digits' steps make of the digit i alone -/
def col (k i : Nat) : BitVec 32 := it k (BitVec.twoPow 32 i)

theorem cols (k : Nat) (r : BitVec 32) : X (fun i => if r.getLsbD i then col k i else 0#32) 32 = it k r := by
  conv => rhs; rw [← X_all r]
  rw [X_it]
  apply X_congr
  intro i _
  unfold dg col
  cases r.getLsbD i <;> simp [it_zero]

theorem col_twice (k i : Nat) : it k (col k i) = col (k + k) i := by unfold col; rw [it_add]

end Crcm

/-
  The numbers of the walk and their digits: what the machine's operations on 32 digits come to.
-/
namespace Crcm
open Go

/-- a number's digits -/
def V (n : Int) : BitVec 32 := BitVec.ofInt 32 n
/-- the digits' number -/
def N (x : BitVec 32) : Int := (x.toNat : Int)
/-- a number of 32 digits -/
def U32 (n : Int) : Prop := 0 ≤ n ∧ n < 4294967296
/-- a number of 8 digits -/
def U8 (n : Int) : Prop := 0 ≤ n ∧ n < 256

theorem U8.u32 {n : Int} (h : U8 n) : U32 n := ⟨h.1, by have := h.2; omega⟩
theorem U32_N (x : BitVec 32) : U32 (N x) := by unfold U32 N; have := x.isLt; omega
theorem V_N (x : BitVec 32) : V (N x) = x := by unfold V N; simp
theorem N_V {n : Int} (h : U32 n) : N (V n) = n := by
  unfold V N
  obtain ⟨h0, h1⟩ := h
  rw [BitVec.toNat_ofInt]
  omega
theorem V_inj {a b : Int} (ha : U32 a) (hb : U32 b) (h : V a = V b) : a = b := by rw [← N_V ha, ← N_V hb, h]
theorem V_nat (n : Nat) : V (n : Int) = BitVec.ofNat 32 n := by
  unfold V
  simp
theorem V_toNat {n : Int} (h : U32 n) : V n = BitVec.ofNat 32 n.toNat := by
  obtain ⟨h0, h1⟩ := h
  rw [← V_nat, Int.toNat_of_nonneg h0]
theorem toNat_V {n : Int} (h : U32 n) : (V n).toNat = n.toNat := by
  have := N_V h
  unfold N at this
  omega

theorem xor32 {a b : Int} (ha : U32 a) (hb : U32 b) : bits .xor .u32 a b = N (V a ^^^ V b) := by
  rw [u32_xor a b ha.1 ha.2 hb.1 hb.2]
  unfold N
  rw [BitVec.toNat_xor, toNat_V ha, toNat_V hb]
theorem and32 {a b : Int} (ha : U32 a) (hb : U32 b) : bits .and .u32 a b = N (V a &&& V b) := by
  rw [u32_and a b ha.1 ha.2 hb.1 hb.2]
  unfold N
  rw [BitVec.toNat_and, toNat_V ha, toNat_V hb]
theorem V_xor {a b : Int} (ha : U32 a) (hb : U32 b) : V (bits .xor .u32 a b) = V a ^^^ V b := by rw [xor32 ha hb, V_N]
theorem U_xor {a b : Int} (ha : U32 a) (hb : U32 b) : U32 (bits .xor .u32 a b) := by rw [xor32 ha hb]; exact U32_N _
theorem V_and {a b : Int} (ha : U32 a) (hb : U32 b) : V (bits .and .u32 a b) = V a &&& V b := by rw [and32 ha hb, V_N]
theorem U_and {a b : Int} (ha : U32 a) (hb : U32 b) : U32 (bits .and .u32 a b) := by rw [and32 ha hb]; exact U32_N _
theorem U_half {a : Int} (ha : U32 a) : U32 (a / 2) := by obtain ⟨h0, h1⟩ := ha; exact ⟨by omega, by omega⟩
theorem V_half {a : Int} (ha : U32 a) : V (a / 2) = V a >>> 1 := by
  apply BitVec.eq_of_toNat_eq
  rw [toNat_V (U_half ha), BitVec.toNat_ushiftRight, toNat_V ha, Nat.shiftRight_eq_div_pow]
  obtain ⟨h0, h1⟩ := ha
  omega
theorem low_V {a : Int} (ha : U32 a) : (V a).getLsbD 0 = decide (a % 2 = 1) := by
  rw [BitVec.getLsbD, toNat_V ha, Nat.testBit_zero]
  obtain ⟨h0, h1⟩ := ha
  have : (a.toNat % 2 = 1) ↔ (a % 2 = 1) := by omega
  exact decide_eq_decide.2 this
theorem and_one {a : Int} (ha : U32 a) : bits .and .u32 a 1 = a % 2 := by
  rw [u32_and a 1 ha.1 ha.2 (by decide) (by decide)]
  obtain ⟨h0, h1⟩ := ha
  show ((a.toNat &&& 1 : Nat) : Int) = _
  rw [nat_mask1]
  omega

/-- the step of the program's Put -/
theorem put_step {n : Int} (h : U32 n) :
    U32 (bits .xor .u32 (n / 2) (bits .and .u32 3988292384 (-bits .and .u32 n 1 % 4294967296))) ∧
    V (bits .xor .u32 (n / 2) (bits .and .u32 3988292384 (-bits .and .u32 n 1 % 4294967296))) = st (V n) := by
  have hp : U32 3988292384 := ⟨by decide, by decide⟩
  have hm : U32 (-bits .and .u32 n 1 % 4294967296) := ⟨by omega, by omega⟩
  refine ⟨U_xor (U_half h) (U_and hp hm), ?_⟩
  rw [V_xor (U_half h) (U_and hp hm), V_and hp hm, V_half h, and_one h]
  unfold st
  rw [low_V h]
  rcases (by omega : n % 2 = 0 ∨ n % 2 = 1) with e | e
  · rw [e]; simp [V]
  · rw [e]; simp only [V]; simp

/-- the step of the document's Put: x is what the digits so far have come to -/
theorem ref_low {n c : Int} (h : U32 n) (hc : U32 c) : bits .and .u32 (bits .xor .u32 n c) 1 = if (V n ^^^ V c).getLsbD 0 then 1 else 0 := by
  rw [and_one (U_xor h hc), ← V_xor h hc, low_V (U_xor h hc)]
  rcases (by omega : bits .xor .u32 n c % 2 = 0 ∨ bits .xor .u32 n c % 2 = 1) with e | e <;> rw [e] <;> simp

theorem tdiv_half {n : Int} (h : U32 n) : n.tdiv 2 % 4294967296 = n / 2 := by
  obtain ⟨h0, h1⟩ := h
  rw [Int.tdiv_eq_ediv_of_nonneg h0]
  omega
theorem U_shr {b : Int} (hb : U8 b) (k : Nat) : U32 (b % 4294967296 / 2 ^ k) := by
  obtain ⟨h0, h1⟩ := hb
  rw [Int.emod_eq_of_lt h0 (by omega)]
  have hp : (0 : Int) < 2 ^ k := Int.pow_pos (by decide)
  exact ⟨Int.ediv_nonneg h0 (by omega), Int.lt_of_le_of_lt (Int.ediv_le_self _ h0) (by omega)⟩
theorem V_shr {b : Int} (hb : U8 b) (k : Nat) : V (b % 4294967296 / 2 ^ k) = V b >>> k := by
  apply BitVec.eq_of_toNat_eq
  rw [toNat_V (U_shr hb k), BitVec.toNat_ushiftRight, toNat_V hb.u32, Nat.shiftRight_eq_div_pow]
  obtain ⟨h0, h1⟩ := hb
  rw [Int.emod_eq_of_lt h0 (by omega)]
  have : b = (b.toNat : Int) := by omega
  rw [this]
  norm_cast
theorem ref_yes {n b r : Int} {k : Nat} (hn : U32 n) (hb : U8 b) (hv : V n = it k (V r ^^^ V b) ^^^ (V b >>> k))
    (h : (bits .and .u32 (bits .xor .u32 n (b % 4294967296 / 2 ^ k)) 1 == 1) = true) :
    U32 (bits .xor .u32 (n.tdiv 2 % 4294967296) 3988292384) ∧ V (bits .xor .u32 (n.tdiv 2 % 4294967296) 3988292384) = it (k + 1) (V r ^^^ V b) ^^^ (V b >>> (k + 1)) := by
  have hp : U32 3988292384 := ⟨by decide, by decide⟩
  rw [tdiv_half hn]
  refine ⟨U_xor (U_half hn) hp, ?_⟩
  rw [V_xor (U_half hn) hp, V_half hn, ← other]
  rw [ref_low hn (U_shr hb k), V_shr hb, hv] at h
  rw [hv]
  by_cases g : (it k (V r ^^^ V b) ^^^ V b >>> k ^^^ V b >>> k).getLsbD 0 = true
  · rw [if_pos g]; rfl
  · rw [if_neg g] at h; simp at h
theorem ref_no {n b r : Int} {k : Nat} (hn : U32 n) (hb : U8 b) (hv : V n = it k (V r ^^^ V b) ^^^ (V b >>> k))
    (h : (bits .and .u32 (bits .xor .u32 n (b % 4294967296 / 2 ^ k)) 1 == 1) = false) :
    U32 (n.tdiv 2 % 4294967296) ∧ V (n.tdiv 2 % 4294967296) = it (k + 1) (V r ^^^ V b) ^^^ (V b >>> (k + 1)) := by
  rw [tdiv_half hn]
  refine ⟨U_half hn, ?_⟩
  rw [V_half hn, ← other]
  rw [ref_low hn (U_shr hb k), V_shr hb, hv] at h
  rw [hv]
  by_cases g : (it k (V r ^^^ V b) ^^^ V b >>> k ^^^ V b >>> k).getLsbD 0 = true
  · rw [if_pos g] at h; simp at h
  · rw [if_neg g, BitVec.xor_zero]
theorem ref_end {n b : Int} {x : BitVec 32} (hn : U32 n) (hb : U8 b) (hv : V n = x ^^^ (V b >>> 8)) : n = N x := by
  have e : V b >>> 8 = 0#32 := by
    apply BitVec.eq_of_toNat_eq
    rw [BitVec.toNat_ushiftRight, toNat_V hb.u32, Nat.shiftRight_eq_div_pow]
    obtain ⟨h0, h1⟩ := hb
    show _ = 0
    omega
  rw [e, BitVec.xor_zero] at hv
  rw [← hv, N_V hn]

theorem not32 {a : Int} (h : U32 a) : bits .xor .u32 IntKind.u32.max a = N (~~~ V a) := by
  have hm : U32 IntKind.u32.max := ⟨by decide, by decide⟩
  rw [xor32 hm h]
  have e : V IntKind.u32.max = BitVec.allOnes 32 := by decide
  rw [e, BitVec.allOnes_xor]
theorem U_not {a : Int} (h : U32 a) : U32 (bits .xor .u32 IntKind.u32.max a) := by rw [not32 h]; exact U32_N _
theorem V_not {a : Int} (h : U32 a) : V (bits .xor .u32 IntKind.u32.max a) = ~~~ V a := by rw [not32 h, V_N]
theorem ref_not {a : Int} (h : U32 a) : (4294967295 - a) % 4294967296 = N (~~~ V a) := by
  unfold N
  rw [BitVec.toNat_not, toNat_V h]
  obtain ⟨h0, h1⟩ := h
  omega
theorem take_snoc {l : List Int} {k : Nat} (h : k < l.length) : (l.take (k + 1)).map V = (l.take k).map V ++ [V l[k]] := by
  rw [List.take_succ_eq_append_getElem h, List.map_append]; rfl
theorem F_take {l : List Int} {k : Nat} (h : k < l.length) (r : BitVec 32) : F r ((l.take (k + 1)).map V) = it 8 (F r ((l.take k).map V) ^^^ V l[k]) := by
  rw [take_snoc h, F_snoc]
theorem take_all {l : List Int} {k : Nat} (h : ¬ k < l.length) : l.take k = l := List.take_of_length_le (by omega)
theorem quo256 {m : Int} (h : U32 m) : IntKind.u64.wrap (m.tdiv 256) = m / 256 := by
  obtain ⟨h0, h1⟩ := h
  rw [IntKind.wrap_u64, Int.tdiv_eq_ediv_of_nonneg h0]
  omega
theorem N_inj {x y : BitVec 32} (h : N x = N y) : x = y := by rw [← V_N x, ← V_N y, h]
theorem not_inj {x y : BitVec 32} (h : ~~~ x = ~~~ y) : x = y := by rw [← BitVec.not_not (b := x), ← BitVec.not_not (b := y), h]
theorem map_V_inj : ∀ (l m : List Int), (∀ n ∈ l, U32 n) → (∀ n ∈ m, U32 n) → l.map V = m.map V → l = m := by
  intro l
  induction l with
  | nil => intro m _ _ h; cases m with | nil => rfl | cons _ _ => simp at h
  | cons a l ih =>
    intro m hl hm h
    cases m with
    | nil => simp at h
    | cons b m =>
      simp only [List.map_cons, List.cons.injEq] at h
      rw [V_inj (hl a (by simp)) (hm b (by simp)) h.1, ih m (fun n hn => hl n (by simp [hn])) (fun n hn => hm n (by simp [hn])) h.2]

end Crcm

/-
  What the two calls Put answer (the program's and the document's): eight steps over a remainder and a byte.
-/
namespace Go.Proofs.YtbfifppdcmimaaaGreat
open Go.RowKit Crcm

theorem ret_u32 {a b : Int} (h : a = b) : Ending.returned (.int .u32 a) = .returned (.int .u32 b) := by rw [h]

/-- a remainder with a byte -/
def pt (r b : Int) : Int := N (it 8 (V r ^^^ V b))
theorem U32_pt (r b : Int) : U32 (pt r b) := U32_N _

set_option maxHeartbeats 400000 in
theorem put_any (r b : Int) (w : World) (hr : U32 r) (hb : U8 b) :
    Calls Tryz.prog 141 #[.int .u32 r, .int .u8 b] w fun e w' => e = .returned (.int .u32 (pt r b)) ∧ w = w' := by
  go_enter Tryz.func141, Tryz.ntmps141
  go_wp2
  go_loop [0, 9] (fun t i => ∃ k : Nat, ∃ n : Int, k ≤ 8 ∧ U32 n ∧ i = .int .i64 k ∧ t = .int .u32 n ∧ Hid (V n = it k (V r ^^^ V b))) (fun _ i => 8 - (intOf i).toNat)
  case atStart =>
    have e : b % 4294967296 = b := by obtain ⟨h0, h1⟩ := hb; omega
    rw [e]
    exact ⟨0, _, by omega, U_xor hr hb.u32, rfl, rfl, Lib.hid (V_xor hr hb.u32)⟩
  case round =>
    obtain ⟨k, n, hk, hn, rfl, rfl, hv⟩ := hrel
    by_cases hlt : k < 8
    · go_wp2
      go_round
      case rel => exact ⟨k + 1, _, by omega, (put_step hn).1, by go_num, rfl, Lib.hid (by rw [(put_step hn).2, hv.out, it_succ])⟩
      case measure => simp [intOf]; omega
    · go_wp2
      go_ret
      have hk8 : k = 8 := by omega
      exact ⟨ret_u32 (by unfold pt; rw [← hk8, ← hv.out, N_V hn]), rfl⟩

end Go.Proofs.YtbfifppdcmimaaaGreat

/-
  What the calls More and Sum answer (the program's and the document's): the remainder behind a row of bytes, turned.
-/
namespace Go.Proofs.YtbfifppdcmimaaaGreat
open Go.RowKit Crcm

/-- a slice that reads as these bytes: where there is one, the first lies at the address -/
def Rw (w : World) (a : Option Addr) (zs : List Int) : Prop :=
  (∀ n ∈ zs, U8 n) ∧ zs.length ≤ maxLen ∧ (zs = [] ∨ ∃ b off, a = some ⟨b, off, none⟩ ∧ ∀ i, i < zs.length → w.cell? ⟨b, off + i, none⟩ = some (.int .u8 (zs.getD i 0)))

/-- the sum that goes on -/
def mo (s : Int) (zs : List Int) : Int := N (~~~ F (~~~ V s) (zs.map V))
theorem U32_mo (s : Int) (zs : List Int) : U32 (mo s zs) := U32_N _

set_option maxHeartbeats 400000 in
theorem more_any (s : Int) (a : Option Addr) (cap : Nat) (zs : List Int) (w : World) (hs : U32 s) (hr : Rw w a zs) :
    Calls Tryz.prog 109 #[.int .u32 s, .slice a zs.length cap] w fun e w' => e = .returned (.int .u32 (mo s zs)) ∧ w = w' := by
  obtain ⟨hz, hm, hc⟩ := hr
  unfold maxLen at hm
  go_enter Tryz.func109, Tryz.ntmps109
  go_wp2_with fail
  go_loop [5, 12] (fun t i => ∃ k : Nat, ∃ n : Int, k ≤ zs.length ∧ U32 n ∧ i = .int .i64 k ∧ t = .int .u32 n ∧ Hid (V n = F (~~~ V s) ((zs.take k).map V))) (fun _ i => zs.length - (intOf i).toNat)
  case atStart => exact ⟨0, _, by omega, U_not hs, rfl, rfl, Lib.hid (by rw [V_not hs]; rfl)⟩
  case round =>
    obtain ⟨k, n, hk, hn, rfl, rfl, hv⟩ := hrel
    by_cases hlt : k < zs.length
    · rcases hc with hc | ⟨b, off, rfl, hc⟩
      · subst hc; simp at hlt
      have hcell := hc k hlt
      have hb8 : U8 zs[k] := hz _ (List.getElem_mem hlt)
      clear hc
      go_wp2_with (go_at_call 141; refine (put_any _ _ _ hn hb8).mono ?_; rintro e w' ⟨rfl, rfl⟩)
      go_round
      case rel => exact ⟨k + 1, _, by omega, U32_pt _ _, by go_num, rfl, Lib.hid (by rw [F_take hlt, ← hv.out]; exact V_N _)⟩
      case measure => simp [intOf]; omega
    · go_wp2
      go_ret
      exact ⟨ret_u32 (by unfold mo; rw [not32 hn, hv.out, take_all hlt]), rfl⟩

theorem sum_any (a : Option Addr) (cap : Nat) (zs : List Int) (w : World) (hr : Rw w a zs) :
    Calls Tryz.prog 75 #[.slice a zs.length cap] w fun e w' => e = .returned (.int .u32 (mo 0 zs)) ∧ w = w' := by
  go_enter Tryz.func75, Tryz.ntmps75
  go_wp2_with (go_at_call 109; refine (more_any _ _ _ _ _ ⟨by decide, by decide⟩ hr).mono ?_; rintro e w' ⟨rfl, rfl⟩)
  go_ret
  exact ⟨rfl, rfl⟩

end Go.Proofs.YtbfifppdcmimaaaGreat

/-
  Slices of bytes that came in or were made: what they read as, how they are appended, made into strings and held against one another. Nothing of one statement alone stands here.
-/
namespace Go.Proofs.YtbfifppdcmimaaaGreat
open Go.RowKit Crcm Go.ChangeShapes

theorem U32_wf {n : Int} (h : (Lit.int .u32 n).wf = true) : U32 n := by have := bounds_u32 h; unfold U32; omega
theorem U8_wf {n : Int} (h : (Lit.int .u8 n).wf = true) : U8 n := by have := bounds_u8 h; unfold U8; omega
theorem ret_bool {a b : Bool} (h : a = b) : Ending.returned (.bool a) = .returned (.bool b) := by rw [h]
theorem ret_u64 {a b : Int} (h : a = b) : Ending.returned (.int .u64 a) = .returned (.int .u64 b) := by rw [h]
theorem ret_i64 {a b : Int} (h : a = b) : Ending.returned (.int .i64 a) = .returned (.int .i64 b) := by rw [h]

/-- what is told of a slice of bytes that came in -/
def Row8 (w : World) (a : Option Addr) (len cap : Nat) (zs : List Int) : Prop :=
  (a = none ∧ len = 0 ∧ cap = 0 ∧ zs = []) ∨
  ∃ x, a = some x ∧ len ≤ cap ∧ cap ≤ maxLen ∧ zs.length = cap ∧ (∀ i, i < zs.length → w.cell? (x.add i) = some (.int .u8 (zs.getD i 0))) ∧ ∀ n ∈ zs, (Lit.int .u8 n).wf = true

theorem Row8.rw {w : World} {a : Option Addr} {len cap : Nat} {zs : List Int} (h : Row8 w a len cap zs) : ∃ l : List Int, l.length = len ∧ len ≤ cap ∧ Rw w a l ∧ l = zs.take len := by
  rcases h with ⟨rfl, rfl, rfl, rfl⟩ | ⟨x, rfl, hl, hm, hz, hc, hw⟩
  · exact ⟨[], rfl, Nat.le_refl _, ⟨by simp, by simp, .inl rfl⟩, rfl⟩
  · refine ⟨zs.take len, by rw [List.length_take]; omega, hl, ⟨fun n hn => U8_wf (hw n (List.mem_of_mem_take hn)), by rw [List.length_take]; omega, ?_⟩, rfl⟩
    by_cases h0 : len = 0
    · left; subst h0; rfl
    · right
      obtain ⟨b, off, spot⟩ := x
      have hc0 := hc 0 (by omega)
      have hspot : spot = none := by simpa [Addr.add] using World.cell?_spot hc0
      subst hspot
      refine ⟨b, off, rfl, fun i hi => ?_⟩
      have hi' : i < len := by rw [List.length_take] at hi; omega
      have := hc i (by omega)
      rw [show (⟨b, off, none⟩ : Addr).add i = ⟨b, off + i, none⟩ by simp [Addr.add]] at this
      rw [this]
      simp [List.getD_eq_getElem?_getD, hi']

theorem Rw.keep {w w' : World} {a : Option Addr} {zs : List Int} (h : Rw w a zs) (hk : ∀ b o v, w.cell? ⟨b, o, none⟩ = some v → w'.cell? ⟨b, o, none⟩ = some v) : Rw w' a zs := by
  obtain ⟨h1, h2, h3⟩ := h
  refine ⟨h1, h2, ?_⟩
  rcases h3 with h3 | ⟨b, off, rfl, h3⟩
  · exact .inl h3
  · exact .inr ⟨b, off, rfl, fun i hi => hk _ _ _ (h3 i hi)⟩
theorem Rw.below {w w' : World} {a : Option Addr} {zs : List Int} (h : Rw w a zs) (hb : Below w.heap.size w w') : Rw w' a zs :=
  h.keep fun b o _ hc => (hb.cell (p := ⟨b, o, none⟩) (block_lt_of_cell hc)).trans hc
theorem Rw.nil {w : World} {a : Option Addr} : Rw w a [] := ⟨by simp, by simp, .inl rfl⟩
theorem Rw.take {w : World} {a : Option Addr} {l : List Int} (h : Rw w a l) (j : Nat) : Rw w a (l.take j) := by
  obtain ⟨h1, h2, h3⟩ := h
  refine ⟨fun n hn => h1 n (List.mem_of_mem_take hn), by rw [List.length_take]; omega, ?_⟩
  rcases h3 with rfl | ⟨b, off, rfl, h3⟩
  · left; simp
  · refine .inr ⟨b, off, rfl, fun i hi => ?_⟩
    rw [List.length_take] at hi
    rw [h3 i (by omega)]
    have hi' : i < j := by omega
    simp [List.getD_eq_getElem?_getD, hi']
theorem Rw.drop {w : World} {a : Option Addr} {l : List Int} (h : Rw w a l) (j : Nat) {a' : Option Addr} (ha : ∀ b off, a = some ⟨b, off, none⟩ → j < l.length → a' = some ⟨b, off + j, none⟩) : Rw w a' (l.drop j) := by
  obtain ⟨h1, h2, h3⟩ := h
  refine ⟨fun n hn => h1 n (List.mem_of_mem_drop hn), by rw [List.length_drop]; omega, ?_⟩
  rcases h3 with rfl | ⟨b, off, rfl, h3⟩
  · left; simp
  · by_cases hj : j < l.length
    · refine .inr ⟨b, off + j, ha b off rfl hj, fun i hi => ?_⟩
      rw [List.length_drop] at hi
      rw [Nat.add_assoc, h3 (j + i) (by omega)]
      simp [List.getD_eq_getElem?_getD]
    · left; exact List.drop_of_length_le (by omega)
/-- where a slice goes on from a place, as the model says it -/
def mv (a : Option Addr) (cap j : Nat) : Option Addr := if cap = j then a else a.map (·.add j)
theorem Rw.mv {w : World} {a : Option Addr} {l : List Int} (h : Rw w a l) (j cap : Nat) (hc : l.length ≤ cap) : Rw w (mv a cap j) (l.drop j) :=
  h.drop j fun b off he hj => by unfold YtbfifppdcmimaaaGreat.mv; rw [if_neg (by omega), he]; simp [Addr.add]
theorem Rw.cut {w : World} {a : Option Addr} {l : List Int} (h : Rw w a l) (j k cap : Nat) (hc : l.length ≤ cap) : Rw w (YtbfifppdcmimaaaGreat.mv a cap j) ((l.drop j).take k) := (h.mv j cap hc).take k

theorem Tryz.info8 : (Tryz.prog.info? 5).map (fun i => (i.zero, i.size, i.bytes)) = some (some (.int .u8 0), 1, 1) := by kernel_rfl

theorem Rw.of_own {w : World} {base n : Nat} {v : Value} {zs : List Int} (h : w.ownsRow base 5 1 v n (zs.map (Value.int .u8))) (hz : ∀ m ∈ zs, U8 m) :
    ∃ a cap, v = .slice a n cap ∧ Rw w a zs ∧ zs.length = n ∧ n ≤ cap := by
  obtain ⟨hl, h⟩ := h
  have hl' : zs.length = n := by simpa using hl
  rcases h with ⟨rfl, rfl⟩ | ⟨g, cap, cur, rfl, _, hg, hn, hm, _, ht⟩
  · exact ⟨none, 0, rfl, ⟨hz, by omega, .inl (List.eq_nil_of_length_eq_zero hl')⟩, hl', Nat.le_refl _⟩
  · refine ⟨_, cap, rfl, ⟨hz, by omega, .inr ⟨g, 0, rfl, fun i hi => ?_⟩⟩, hl', hn⟩
    rw [Nat.zero_add, cell_of_row w g i cur _ _ hg]
    have h1 : (cur.toList.take (n * 1))[i]? = (zs.map (Value.int .u8))[i]? := by rw [ht]
    rw [List.getElem?_take, if_pos (by omega)] at h1
    rw [← Array.getElem?_toList, h1]
    simp [List.getD_eq_getElem?_getD, hi]

/-- bytes that are to be appended: none, by no address; or from an address on -/
def Src (w : World) (A : Option Addr) (l : List Int) : Prop :=
  (A = none ∧ l = []) ∨ ∃ ad, A = some ad ∧ ∀ j, j < l.length → w.cell? (ad.add j) = some (.int .u8 (l.getD j 0))
theorem Src.below {w w' : World} {A : Option Addr} {l : List Int} (h : Src w A l) (hb : Below w.heap.size w w') : Src w' A l := by
  rcases h with h | ⟨ad, rfl, h⟩
  · exact .inl h
  · exact .inr ⟨ad, rfl, fun j hj => by rw [hb.cell (block_lt_of_cell (h j hj))]; exact h j hj⟩
theorem Rw.src {w : World} {a : Option Addr} {l : List Int} (h : Rw w a l) : Src w a l := by
  obtain ⟨h1, h2, h3⟩ := h
  rcases a with _ | ad
  · rcases h3 with rfl | ⟨b, off, h, _⟩
    · exact .inl ⟨rfl, rfl⟩
    · cases h
  · refine .inr ⟨ad, rfl, fun j hj => ?_⟩
    rcases h3 with rfl | ⟨b, off, h, h3⟩
    · simp at hj
    · injection h with h
      subst h
      rw [show (⟨b, off, none⟩ : Addr).add j = ⟨b, off + j, none⟩ by simp [Addr.add]]
      exact h3 j hj

theorem run_append_nothing {P : Program} {w : World} {base : Nat} {t ty e : TypeId} {i : TypeInfo} {size : Nat} (ht : P.underlying t = some (.slice e)) (hi : P.info? e = some i)
    {v : Value} {n : Nat} {xs : List Value} (hown : w.ownsRow base e size v n xs) (c : Nat) : (Builtin.append_ #[t, t] ty #[v, .slice none 0 c]).run P w = .ok v w := by
  rcases hown.2 with ⟨rfl, rfl⟩ | ⟨g, cap, cur, rfl, _, _, hnc, _⟩
  · simp [Builtin.append_, run_underlying ht, sizeOf, typeInfo, hi, Builtin.lenOf, Builtin.firstCells]
  · simp [Builtin.append_, run_underlying ht, sizeOf, typeInfo, hi, Builtin.lenOf, Builtin.firstCells, hnc, storeCells]

theorem wp_append_nothing {P : Program} {w : World} {o : Oper} {a : Act} {K : Act → World → Prop} {Q : Exit → Act → World → Prop} (s x : Operand) (t : TypeId)
    (ho : o.op = .call { callee := .builtin .append, args := #[s, x], argTypes := #[t, t] })
    (base : Nat) (e : TypeId) (i : TypeInfo) (size : Nat) (ht : P.underlying t = some (.slice e)) (hi : P.info? e = some i)
    (v : Value) (n : Nat) (xs : List Value) (hs : a.eval s = v) (hown : w.ownsRow base e size v n xs) (c : Nat) (hx : a.eval x = .slice none 0 c)
    (h : K (a.put o.dst v) w) : o.wp P a w K Q := by
  have hrun := run_append_nothing (ty := o.type) ht hi hown c
  unfold Oper.wp execOp
  simp only [ho, resolve, invoke, builtin, Sem.run_bind, Sem.run_pure, Result.andThen_ok, List.map_toArray, List.map_cons, List.map_nil, hs, hx, hrun]
  exact h

/-- append of bytes onto a row of the call's own: the source nil, empty or not -/
theorem append_bytes {w : World} {ops : Array Oper} {rest : List Oper} {o : Oper} {a : Act} {Q : Exit → Act → World → Prop} (hgd : o.guard = none) (s x : Operand)
    (ho : o.op = .call { callee := .builtin .append, args := #[s, x], argTypes := #[23, 23] })
    (base : Nat) (v : Value) (n : Nat) (xs : List Int) (hs : a.eval s = v) (hown : w.ownsRow base 5 1 v n (xs.map (Value.int .u8)))
    (A : Option Addr) (m c : Nat) (l : List Int) (hx : a.eval x = .slice A m c) (hl : l.length = m) (hsrc : Src w A l) (h63 : n + m ≤ 1000000) (hbase : base ≤ w.heap.size)
    (h : ∀ v' w', w'.ownsRow base 5 1 v' (n + m) ((xs ++ l).map (Value.int .u8)) → Below base w w' → wpList Tryz.prog ops Q rest (a.put o.dst v') w') : wpList Tryz.prog ops Q (o :: rest) a w := by
  obtain ⟨i0, hi, hz0, hz1, hz2⟩ := info_parts Tryz.info8
  rcases hsrc with ⟨rfl, rfl⟩ | ⟨ad, rfl, hc⟩
  · simp at hl
    subst hl
    exact wpList_plain hgd fun _ hK => wp_append_nothing s x 23 ho base 5 i0 1 Tryz.underlying23 hi v n _ hs hown c hx (hK _ _ (h v w (by simpa using hown) (Below.refl _ _)))
  · refine wpList_append_own w hgd s x 23 ho base 5 i0 (.int .u8 0) 1 1 Tryz.underlying23 hi hz0 hz1 hz2 rfl (by decide) v n _ hs hown ad m c (l.map (Value.int .u8)) hx (by simp [hl]) ?_ ?_ (by unfold maxLen; omega) (by omega) hbase ?_
    · intro j u hu
      rw [List.getElem?_map] at hu
      by_cases hj : j < l.length
      · rw [hc j hj]
        simpa [hj] using hu
      · simp [List.getElem?_eq_none (by omega : l.length ≤ j)] at hu
    · intro u hu; obtain ⟨n, -, rfl⟩ := List.mem_map.1 hu; rfl
    · intro v' w' h1 h2 _
      rw [← List.map_append] at h1
      exact h v' w' h1 ((Below.refl _ _).grown h2 hbase (fun g hg => (hown.lt g hg).1))

theorem sum_len {a : Option Addr} {cap len : Nat} {zs : List Int} {w : World} (hr : Rw w a zs) (hl : zs.length = len) :
    Calls Tryz.prog 75 #[.slice a len cap] w fun e w' => e = .returned (.int .u32 (mo 0 zs)) ∧ w = w' := by
  subst hl
  exact sum_any _ _ _ _ hr
theorem mo_cut (s : Int) (l m : List Int) : mo (mo s l) m = mo s (l ++ m) := by
  unfold mo
  rw [V_N, BitVec.not_not, List.map_append, F_append]

theorem text_none (w : World) (a : Option Addr) (c : Nat) : (convert 23 9 (.slice a 0 c)).run Tryz.prog w = .ok (.string (strOfNums [])) w := by
  rw [run_convert_bytes_string w 23 9 5 a 0 c Tryz.underlying23 Tryz.underlying5 Tryz.underlying9]
  rcases a with _ | ad
  · rfl
  · exact run_bytesToString w ad 0 c [] (run_loadCells_list (P := Tryz.prog) w ad [] (fun j v hj => by simp at hj))

/-- a slice of bytes made into a string -/
theorem Rw.text {w : World} {a : Option Addr} {l : List Int} (h : Rw w a l) (n c : Nat) (hn : l.length = n) :
    (convert 23 9 (.slice a n c)).run Tryz.prog w = .ok (.string (strOfNums l)) w := by
  subst hn
  rcases h.2.2 with rfl | ⟨b, off, rfl, hc⟩
  · exact text_none w a c
  · exact run_convert_bytes_arg (P := Tryz.prog) w 23 5 Tryz.underlying23 Tryz.underlying5 b off l.length c l rfl hc 9 Tryz.underlying9

end Go.Proofs.YtbfifppdcmimaaaGreat

/-
  Blocks of a call's own that are known whole. Nothing of one statement alone stands here.
-/
namespace Go.Proofs.YtbfifppdcmimaaaGreat
open Go.RowKit Go.ChangeShapes

/-- a block that is known whole -/
def Blk (w : World) (g : Nat) (t : TypeId) (cs : Array Value) : Prop := w.heap[g]? = some (.cells cs t (0, 0))
theorem Blk.cell {w : World} {g : Nat} {t : TypeId} {cs : Array Value} (h : Blk w g t cs) (i : Nat) : w.cell? ⟨g, i, none⟩ = cs[i]? := cell_of_row w g i cs t (0, 0) h
theorem Blk.frozen {w : World} {g : Nat} {t : TypeId} {cs : Array Value} (h : Blk w g t cs) (i : Nat) : w.frozen? ⟨g, i, none⟩ = false := frozen_of_row w g i cs t h
theorem Blk.lt {w : World} {g : Nat} {t : TypeId} {cs : Array Value} (h : Blk w g t cs) : g < w.heap.size := by
  rcases Nat.lt_or_ge g w.heap.size with hlt | hge
  · exact hlt
  · unfold Blk at h; rw [Array.getElem?_eq_none hge] at h; cases h
theorem Blk.below {w w' : World} {B g : Nat} {t : TypeId} {cs : Array Value} (h : Blk w g t cs) (hb : Below B w w') (hg : g < B) : Blk w' g t cs := (hb.block g hg).trans h
theorem Blk.new (w : World) (t : TypeId) (cs : Array Value) : Blk (w.alloc (.cells cs t)) w.heap.size t cs := heap_alloc_new w _
theorem Blk.alloc {w : World} {g : Nat} {t : TypeId} {cs : Array Value} (h : Blk w g t cs) (o : Obj) : Blk (w.alloc o) g t cs := (Below.heap_alloc w o g h.lt).trans h
theorem Blk.put {w : World} {g : Nat} {t : TypeId} {cs : Array Value} (h : Blk w g t cs) (i : Nat) (u : Value) : Blk (w.setCell ⟨g, i, none⟩ u) g t (cs.setIfInBounds i u) := by
  unfold Blk at h ⊢
  simp [World.setCell, Array.getElem?_modify, h]
theorem Blk.far {w : World} {g : Nat} {t : TypeId} {cs : Array Value} (h : Blk w g t cs) {p : Addr} (hp : g ≠ p.block) (u : Value) : Blk (w.setCell p u) g t cs := (Below.heap_setCell w p u g hp).trans h

/-- a block of two numbers, written over -/
def ov2 (w : World) (g : Nat) (a b : Int) : World := (w.setCell ⟨g, 0, none⟩ (.int .i64 a)).setCell ⟨g, 1, none⟩ (.int .i64 b)
theorem ov2_blk {w : World} {g : Nat} {t : TypeId} {x y a b : Int} (h : Blk w g t #[.int .i64 x, .int .i64 y]) : Blk (ov2 w g a b) g t #[.int .i64 a, .int .i64 b] := by
  have := (h.put 0 (.int .i64 a)).put 1 (.int .i64 b)
  simpa [ov2] using this
theorem ov2_below {w0 w : World} {B g : Nat} {a b : Int} (h : Below B w0 w) (hg : B ≤ g) : Below B w0 (ov2 w g a b) := by
  unfold ov2
  exact (h.setCell (p := ⟨g, 0, none⟩) hg _).setCell (p := ⟨g, 1, none⟩) hg _
theorem ov2_far {w : World} {g g' : Nat} {t : TypeId} {cs : Array Value} {a b : Int} (h : Blk w g' t cs) (hg : g' ≠ g) : Blk (ov2 w g a b) g' t cs := by
  unfold ov2
  exact (h.far (p := ⟨g, 0, none⟩) hg _).far (p := ⟨g, 1, none⟩) hg _
end Go.Proofs.YtbfifppdcmimaaaGreat
