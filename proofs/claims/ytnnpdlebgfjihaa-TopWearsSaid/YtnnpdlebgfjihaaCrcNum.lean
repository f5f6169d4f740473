/-
  The numbers of the walk and their digits: what the machine's operations on 32 digits come to.
-/
import Derived.WalkKit
import Derived.Laws.BitsAllLaws
import Derived.Test.YtnnpdlebgfjihaaCrcMath
namespace Crcm
open Go

/-- a number's digits -/
def V (n : Int) : BitVec 32 := BitVec.ofInt 32 n
/-- the digits' number -/
def N (x : BitVec 32) : Int := (x.toNat : Int)
/-- a number of 32 digits -/
def U32 (n : Int) : Prop := 0 ≤ n ∧ n < 4294967296
/-- a number of 8 digits -/
def U8 (n : Int) : Prop := 0 ≤ n ∧ n < 256

theorem U8.u32 {n : Int} (h : U8 n) : U32 n := ⟨h.1, by have := h.2; omega⟩
theorem U32_N (x : BitVec 32) : U32 (N x) := by unfold U32 N; have := x.isLt; omega
theorem V_N (x : BitVec 32) : V (N x) = x := by unfold V N; simp
theorem N_V {n : Int} (h : U32 n) : N (V n) = n := by
  unfold V N
  obtain ⟨h0, h1⟩ := h
  rw [BitVec.toNat_ofInt]
  omega
theorem V_inj {a b : Int} (ha : U32 a) (hb : U32 b) (h : V a = V b) : a = b := by rw [← N_V ha, ← N_V hb, h]
theorem V_nat (n : Nat) : V (n : Int) = BitVec.ofNat 32 n := by
  unfold V
  simp
theorem V_toNat {n : Int} (h : U32 n) : V n = BitVec.ofNat 32 n.toNat := by
  obtain ⟨h0, h1⟩ := h
  rw [← V_nat, Int.toNat_of_nonneg h0]
theorem toNat_V {n : Int} (h : U32 n) : (V n).toNat = n.toNat := by
  have := N_V h
  unfold N at this
  omega

theorem xor32 {a b : Int} (ha : U32 a) (hb : U32 b) : bits .xor .u32 a b = N (V a ^^^ V b) := by
  rw [u32_xor a b ha.1 ha.2 hb.1 hb.2]
  unfold N
  rw [BitVec.toNat_xor, toNat_V ha, toNat_V hb]
theorem and32 {a b : Int} (ha : U32 a) (hb : U32 b) : bits .and .u32 a b = N (V a &&& V b) := by
  rw [u32_and a b ha.1 ha.2 hb.1 hb.2]
  unfold N
  rw [BitVec.toNat_and, toNat_V ha, toNat_V hb]
theorem V_xor {a b : Int} (ha : U32 a) (hb : U32 b) : V (bits .xor .u32 a b) = V a ^^^ V b := by rw [xor32 ha hb, V_N]
theorem U_xor {a b : Int} (ha : U32 a) (hb : U32 b) : U32 (bits .xor .u32 a b) := by rw [xor32 ha hb]; exact U32_N _
theorem V_and {a b : Int} (ha : U32 a) (hb : U32 b) : V (bits .and .u32 a b) = V a &&& V b := by rw [and32 ha hb, V_N]
theorem U_and {a b : Int} (ha : U32 a) (hb : U32 b) : U32 (bits .and .u32 a b) := by rw [and32 ha hb]; exact U32_N _
theorem U_half {a : Int} (ha : U32 a) : U32 (a / 2) := by obtain ⟨h0, h1⟩ := ha; exact ⟨by omega, by omega⟩
theorem V_half {a : Int} (ha : U32 a) : V (a / 2) = V a >>> 1 := by
  apply BitVec.eq_of_toNat_eq
  rw [toNat_V (U_half ha), BitVec.toNat_ushiftRight, toNat_V ha, Nat.shiftRight_eq_div_pow]
  obtain ⟨h0, h1⟩ := ha
  omega
theorem low_V {a : Int} (ha : U32 a) : (V a).getLsbD 0 = decide (a % 2 = 1) := by
  rw [BitVec.getLsbD, toNat_V ha, Nat.testBit_zero]
  obtain ⟨h0, h1⟩ := ha
  have : (a.toNat % 2 = 1) ↔ (a % 2 = 1) := by omega
  exact decide_eq_decide.2 this
theorem and_one {a : Int} (ha : U32 a) : bits .and .u32 a 1 = a % 2 := by
  rw [u32_and a 1 ha.1 ha.2 (by decide) (by decide)]
  obtain ⟨h0, h1⟩ := ha
  show ((a.toNat &&& 1 : Nat) : Int) = _
  rw [nat_mask1]
  omega

/-- the step of the program's Put -/
theorem put_step {n : Int} (h : U32 n) :
    U32 (bits .xor .u32 (n / 2) (bits .and .u32 3988292384 (-bits .and .u32 n 1 % 4294967296))) ∧
    V (bits .xor .u32 (n / 2) (bits .and .u32 3988292384 (-bits .and .u32 n 1 % 4294967296))) = st (V n) := by
  have hp : U32 3988292384 := ⟨by decide, by decide⟩
  have hm : U32 (-bits .and .u32 n 1 % 4294967296) := ⟨by omega, by omega⟩
  refine ⟨U_xor (U_half h) (U_and hp hm), ?_⟩
  rw [V_xor (U_half h) (U_and hp hm), V_and hp hm, V_half h, and_one h]
  unfold st
  rw [low_V h]
  rcases (by omega : n % 2 = 0 ∨ n % 2 = 1) with e | e
  · rw [e]; simp [V]
  · rw [e]; simp only [V]; simp

/-- the step of the document's Put: x is what the digits so far have come to -/
theorem ref_low {n c : Int} (h : U32 n) (hc : U32 c) : bits .and .u32 (bits .xor .u32 n c) 1 = if (V n ^^^ V c).getLsbD 0 then 1 else 0 := by
  rw [and_one (U_xor h hc), ← V_xor h hc, low_V (U_xor h hc)]
  rcases (by omega : bits .xor .u32 n c % 2 = 0 ∨ bits .xor .u32 n c % 2 = 1) with e | e <;> rw [e] <;> simp

theorem tdiv_half {n : Int} (h : U32 n) : n.tdiv 2 % 4294967296 = n / 2 := by
  obtain ⟨h0, h1⟩ := h
  rw [Int.tdiv_eq_ediv_of_nonneg h0]
  omega
theorem U_shr {b : Int} (hb : U8 b) (k : Nat) : U32 (b % 4294967296 / 2 ^ k) := by
  obtain ⟨h0, h1⟩ := hb
  rw [Int.emod_eq_of_lt h0 (by omega)]
  have hp : (0 : Int) < 2 ^ k := Int.pow_pos (by decide)
  exact ⟨Int.ediv_nonneg h0 (by omega), Int.lt_of_le_of_lt (Int.ediv_le_self _ h0) (by omega)⟩
theorem V_shr {b : Int} (hb : U8 b) (k : Nat) : V (b % 4294967296 / 2 ^ k) = V b >>> k := by
  apply BitVec.eq_of_toNat_eq
  rw [toNat_V (U_shr hb k), BitVec.toNat_ushiftRight, toNat_V hb.u32, Nat.shiftRight_eq_div_pow]
  obtain ⟨h0, h1⟩ := hb
  rw [Int.emod_eq_of_lt h0 (by omega)]
  have : b = (b.toNat : Int) := by omega
  rw [this]
  norm_cast
theorem ref_yes {n b r : Int} {k : Nat} (hn : U32 n) (hb : U8 b) (hv : V n = it k (V r ^^^ V b) ^^^ (V b >>> k))
    (h : (bits .and .u32 (bits .xor .u32 n (b % 4294967296 / 2 ^ k)) 1 == 1) = true) :
    U32 (bits .xor .u32 (n.tdiv 2 % 4294967296) 3988292384) ∧ V (bits .xor .u32 (n.tdiv 2 % 4294967296) 3988292384) = it (k + 1) (V r ^^^ V b) ^^^ (V b >>> (k + 1)) := by
  have hp : U32 3988292384 := ⟨by decide, by decide⟩
  rw [tdiv_half hn]
  refine ⟨U_xor (U_half hn) hp, ?_⟩
  rw [V_xor (U_half hn) hp, V_half hn, ← other]
  rw [ref_low hn (U_shr hb k), V_shr hb, hv] at h
  rw [hv]
  by_cases g : (it k (V r ^^^ V b) ^^^ V b >>> k ^^^ V b >>> k).getLsbD 0 = true
  · rw [if_pos g]; rfl
  · rw [if_neg g] at h; simp at h
theorem ref_no {n b r : Int} {k : Nat} (hn : U32 n) (hb : U8 b) (hv : V n = it k (V r ^^^ V b) ^^^ (V b >>> k))
    (h : (bits .and .u32 (bits .xor .u32 n (b % 4294967296 / 2 ^ k)) 1 == 1) = false) :
    U32 (n.tdiv 2 % 4294967296) ∧ V (n.tdiv 2 % 4294967296) = it (k + 1) (V r ^^^ V b) ^^^ (V b >>> (k + 1)) := by
  rw [tdiv_half hn]
  refine ⟨U_half hn, ?_⟩
  rw [V_half hn, ← other]
  rw [ref_low hn (U_shr hb k), V_shr hb, hv] at h
  rw [hv]
  by_cases g : (it k (V r ^^^ V b) ^^^ V b >>> k ^^^ V b >>> k).getLsbD 0 = true
  · rw [if_pos g] at h; simp at h
  · rw [if_neg g, BitVec.xor_zero]
theorem ref_end {n b : Int} {x : BitVec 32} (hn : U32 n) (hb : U8 b) (hv : V n = x ^^^ (V b >>> 8)) : n = N x := by
  have e : V b >>> 8 = 0#32 := by
    apply BitVec.eq_of_toNat_eq
    rw [BitVec.toNat_ushiftRight, toNat_V hb.u32, Nat.shiftRight_eq_div_pow]
    obtain ⟨h0, h1⟩ := hb
    show _ = 0
    omega
  rw [e, BitVec.xor_zero] at hv
  rw [← hv, N_V hn]

theorem not32 {a : Int} (h : U32 a) : bits .xor .u32 IntKind.u32.max a = N (~~~ V a) := by
  have hm : U32 IntKind.u32.max := ⟨by decide, by decide⟩
  rw [xor32 hm h]
  have e : V IntKind.u32.max = BitVec.allOnes 32 := by decide
  rw [e, BitVec.allOnes_xor]
theorem U_not {a : Int} (h : U32 a) : U32 (bits .xor .u32 IntKind.u32.max a) := by rw [not32 h]; exact U32_N _
theorem V_not {a : Int} (h : U32 a) : V (bits .xor .u32 IntKind.u32.max a) = ~~~ V a := by rw [not32 h, V_N]
theorem ref_not {a : Int} (h : U32 a) : (4294967295 - a) % 4294967296 = N (~~~ V a) := by
  unfold N
  rw [BitVec.toNat_not, toNat_V h]
  obtain ⟨h0, h1⟩ := h
  omega
theorem take_snoc {l : List Int} {k : Nat} (h : k < l.length) : (l.take (k + 1)).map V = (l.take k).map V ++ [V l[k]] := by
  rw [List.take_succ_eq_append_getElem h, List.map_append]; rfl
theorem F_take {l : List Int} {k : Nat} (h : k < l.length) (r : BitVec 32) : F r ((l.take (k + 1)).map V) = it 8 (F r ((l.take k).map V) ^^^ V l[k]) := by
  rw [take_snoc h, F_snoc]
theorem take_all {l : List Int} {k : Nat} (h : ¬ k < l.length) : l.take k = l := List.take_of_length_le (by omega)
theorem quo256 {m : Int} (h : U32 m) : IntKind.u64.wrap (m.tdiv 256) = m / 256 := by
  obtain ⟨h0, h1⟩ := h
  rw [IntKind.wrap_u64, Int.tdiv_eq_ediv_of_nonneg h0]
  omega
theorem N_inj {x y : BitVec 32} (h : N x = N y) : x = y := by rw [← V_N x, ← V_N y, h]
theorem not_inj {x y : BitVec 32} (h : ~~~ x = ~~~ y) : x = y := by rw [← BitVec.not_not (b := x), ← BitVec.not_not (b := y), h]
theorem map_V_inj : ∀ (l m : List Int), (∀ n ∈ l, U32 n) → (∀ n ∈ m, U32 n) → l.map V = m.map V → l = m := by
  intro l
  induction l with
  | nil => intro m _ _ h; cases m with | nil => rfl | cons _ _ => simp at h
  | cons a l ih =>
    intro m hl hm h
    cases m with
    | nil => simp at h
    | cons b m =>
      simp only [List.map_cons, List.cons.injEq] at h
      rw [V_inj (hl a (by simp)) (hm b (by simp)) h.1, ih m (fun n hn => hl n (by simp [hn])) (fun n hn => hm n (by simp [hn])) h.2]

end Crcm
