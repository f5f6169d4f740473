/-
  Plain facts on operations' bytes of which at most four that stand together are turned: torn.
-/
import Derived.Test.YthngpmiclbbpnaaGreatHistQ
import Derived.Test.YthngpmiclbbpnaaGreatHistF
namespace Crcm
open Go

theorem xor8 {a b : Int} (ha : U8 a) (hb : U8 b) : U8 (bits .xor .u8 a b) ∧ V (bits .xor .u8 a b) = V a ^^^ V b := by
  have e := u8_xor a b ha.1 ha.2 hb.1 hb.2
  have h8 : U8 (bits .xor .u8 a b) := by
    rw [e]
    have := Nat.xor_lt_two_pow (x := a.toNat) (y := b.toNat) (n := 8) (by obtain ⟨h0, h1⟩ := ha; omega) (by obtain ⟨h0, h1⟩ := hb; omega)
    unfold U8
    omega
  refine ⟨h8, ?_⟩
  apply BitVec.eq_of_toNat_eq
  rw [BitVec.toNat_xor, toNat_V h8.u32, toNat_V ha.u32, toNat_V hb.u32, e]
  simp
/-- a row of which the bytes from k on are put together with the first j of x -/
def bu (l : List Int) (k : Nat) (x : List Int) : Nat → List Int
  | 0 => l
  | j + 1 => (bu l k x j).set (k + j) (bits .xor .u8 ((bu l k x j).getD (k + j) 0) (x.getD j 0))
theorem bu_length (l : List Int) (k : Nat) (x : List Int) (j : Nat) : (bu l k x j).length = l.length := by
  induction j with
  | zero => rfl
  | succ j ih => simp [bu, ih]
theorem bu_get (l : List Int) (k : Nat) (x : List Int) (j : Nat) (i : Nat) : (bu l k x j).getD i 0 = if k ≤ i ∧ i < k + j ∧ i < l.length then bits .xor .u8 (l.getD i 0) (x.getD (i - k) 0) else l.getD i 0 := by
  induction j generalizing i with
  | zero => rw [if_neg (by omega)]; rfl
  | succ j ih =>
    simp only [bu, List.getD_eq_getElem?_getD, List.getElem?_set]
    have hl := bu_length l k x j
    by_cases e : k + j = i
    · subst e
      rw [if_pos rfl]
      by_cases hlt : k + j < l.length
      · rw [if_pos (by omega), if_pos (by omega)]
        have h1 := ih (k + j)
        rw [if_neg (by omega)] at h1
        simp only [List.getD_eq_getElem?_getD] at h1
        rw [show k + j - k = j by omega]
        simp [h1]
      · rw [if_neg (by omega), if_neg (by omega), List.getElem?_eq_none (by omega)]
    · rw [if_neg e]
      have h1 := ih i
      simp only [List.getD_eq_getElem?_getD] at h1
      rw [h1]
      by_cases c : k ≤ i ∧ i < k + j ∧ i < l.length
      · rw [if_pos c, if_pos (by omega)]
      · rw [if_neg c, if_neg (by omega)]
theorem bu_U8 (l : List Int) (k : Nat) (x : List Int) (hl : ∀ n ∈ l, U8 n) (hx : ∀ n ∈ x, U8 n) (j : Nat) (hj : j ≤ x.length) : ∀ n ∈ bu l k x j, U8 n := by
  induction j with
  | zero => exact hl
  | succ j ih =>
    intro n hn
    have ih := ih (by omega)
    simp only [bu] at hn
    rcases List.mem_or_eq_of_mem_set hn with h | rfl
    · exact ih n h
    · have a : ∀ (l : List Int) (i : Nat), (∀ n ∈ l, U8 n) → U8 (l.getD i 0) := by
        intro l i h
        by_cases hi : i < l.length
        · simp [hi]; exact h _ (List.getElem_mem hi)
        · simp [List.getElem?_eq_none (by omega : l.length ≤ i)]; unfold U8; omega
      exact (xor8 (a _ _ ih) (a _ _ hx)).1
theorem bu_split (l : List Int) (k : Nat) (x : List Int) (hl : ∀ n ∈ l, U8 n) (hx : ∀ n ∈ x, U8 n) (hk : k + x.length ≤ l.length) :
    (bu l k x x.length).map V = (l.map V).take k ++ List.zipWith (· ^^^ ·) (((l.map V).drop k).take x.length) (x.map V) ++ (l.map V).drop (k + x.length) := by
  apply List.ext_getElem
  · simp [bu_length]; omega
  · intro i h1 h2
    have hi : i < l.length := by simpa [bu_length] using h1
    have hb : (bu l k x x.length)[i]'(by rw [bu_length]; exact hi) = (bu l k x x.length).getD i 0 := by simp [bu_length, hi]
    rw [List.getElem_map, hb, bu_get]
    have gl : l.getD i 0 = l[i] := by simp [hi]
    by_cases c1 : i < k
    · rw [if_neg (by omega), gl, List.getElem_append_left (by simp; omega), List.getElem_append_left (by simp; omega), List.getElem_take, List.getElem_map]
    · by_cases c2 : i < k + x.length
      · have hx' : i - k < x.length := by omega
        have gx : x.getD (i - k) 0 = x[i - k] := by simp [hx']
        rw [if_pos (by omega), gl, gx, (xor8 (hl _ (List.getElem_mem _)) (hx _ (List.getElem_mem _))).2, List.getElem_append_left (by simp; omega), List.getElem_append_right (by simp; omega)]
        simp only [List.getElem_zipWith, List.getElem_take, List.getElem_drop, List.getElem_map, List.length_take, List.length_map]
        congr 3
        · omega
        · congr 1; omega
      · rw [if_neg (by omega), gl, List.getElem_append_right (by simp; omega)]
        simp only [List.getElem_drop, List.getElem_map]
        congr 2
        simp
        omega
theorem l_split (l : List (BitVec 32)) (k n : Nat) (_hk : k + n ≤ l.length) : l = l.take k ++ (l.drop k).take n ++ l.drop (k + n) := by
  rw [List.append_assoc, ← List.drop_drop, List.take_append_drop, List.take_append_drop]

end Crcm
namespace Tagm
open Go Crcm

theorem xor_add (a t : Nat) (h : a < 256) : a ^^^ (t * 256) = a + t * 256 := by
  have e : t * 256 = t <<< 8 := by rw [Nat.shiftLeft_eq]
  have e2 : a + t * 256 = t <<< 8 ||| a := by rw [← Nat.shiftLeft_add_eq_or_of_lt (i := 8) h, ← e]; omega
  rw [e2, e]
  apply Nat.eq_of_testBit_eq
  intro i
  rw [Nat.testBit_xor, Nat.testBit_or, Nat.testBit_shiftLeft]
  by_cases hi : 8 ≤ i
  · have : a.testBit i = false := Nat.testBit_lt_two_pow (Nat.lt_of_lt_of_le h (by rw [show (256 : Nat) = 2 ^ 8 from rfl]; exact Nat.pow_le_pow_right (by decide) hi))
    rw [this]
    simp
  · have : decide (i ≥ 8) = false := by simp; omega
    rw [this]
    simp
theorem V_bytes {l : List Int} (h : ∀ b ∈ l, U8 b) : ∀ b ∈ l.map V, b.toNat < 256 := by
  intro b hb
  obtain ⟨n, hn, rfl⟩ := List.mem_map.1 hb
  have g := h n hn
  rw [toNat_V g.u32]
  obtain ⟨h0, h1⟩ := g
  omega
theorem pk_nu : ∀ l : List Int, (∀ b ∈ l, U8 b) → l.length ≤ 4 → ((pk (l.map V)).toNat : Int) = nu l := by
  intro l
  induction l with
  | nil => intro _ _; rfl
  | cons b l ih =>
    intro h hl
    simp only [List.length_cons] at hl
    have h1 := ih (fun x hx => h x (by simp [hx])) (by omega)
    have h2 := pk_lt (l.map V) (V_bytes fun x hx => h x (by simp [hx])) (by simp; omega)
    have hb := h b (by simp)
    have hb2 := toNat_V hb.u32
    obtain ⟨b0, b1⟩ := hb
    have h24 : (pk (l.map V)).toNat < 2 ^ 24 := Nat.lt_of_lt_of_le h2 (Nat.pow_le_pow_right (by decide) (by simp; omega))
    rw [List.map_cons, pk, nu, BitVec.toNat_xor, BitVec.toNat_shiftLeft, Nat.shiftLeft_eq, hb2, Nat.mod_eq_of_lt (by omega), show (2 : Nat) ^ 8 = 256 from rfl, xor_add _ _ (by omega)]
    omega
theorem F_code (m : List Int) : F (~~~ V 0) ((m ++ le 4 (sm m)).map V) = it 32 (BitVec.allOnes 32) := by
  have hl := le_U8 4 (sm m)
  have h1 := F_pk ((le 4 (sm m)).map V) (V_bytes hl) (by rw [List.length_map, le_length]; omega)
  have h2 : pk ((le 4 (sm m)).map V) = ~~~ F (~~~ V 0) (m.map V) := by
    apply N_inj
    have h3 := pk_nu (le 4 (sm m)) hl (by rw [le_length]; omega)
    rw [nu_le] at h3
    obtain ⟨a, b⟩ := sm_U32 m
    show ((pk ((le 4 (sm m)).map V)).toNat : Int) = sm m
    rw [h3]
    omega
  rw [h2, List.length_map, le_length] at h1
  rw [List.map_append, F_append, F_from ((le 4 (sm m)).map V), h1, List.length_map, le_length, ← it_xor]
  generalize F (~~~ V 0) (m.map V) = R
  have e : R ^^^ ~~~ R = BitVec.allOnes 32 := by
    rw [← BitVec.xor_allOnes (x := R), ← BitVec.xor_assoc, BitVec.xor_self, BitVec.zero_xor]
  rw [e]
/-- are the first j bytes 0? -/
def al (x : List Int) (j : Nat) : Bool := (x.take j).all (· == 0)
theorem al_succ (x : List Int) (j : Nat) (h : j < x.length) : al x (j + 1) = (al x j && x[j] == 0) := by
  unfold al
  rw [List.take_succ_eq_append_getElem h, List.all_append]
  simp
theorem al_iff (x : List Int) (hx : ∀ n ∈ x, U8 n) : (∀ b ∈ x.map V, b = 0#32) ↔ al x x.length = true := by
  unfold al
  rw [List.take_length, List.all_eq_true]
  constructor
  · intro h n hn
    have h1 := h _ (List.mem_map.2 ⟨n, hn, rfl⟩)
    have h2 : n = 0 := V_inj (hx n hn).u32 ⟨by decide, by decide⟩ (by rw [h1]; rfl)
    simp [h2]
  · intro h b hb
    obtain ⟨n, hn, rfl⟩ := List.mem_map.1 hb
    have h1 := h n hn
    have h2 : n = 0 := by simpa using h1
    rw [h2]; rfl
theorem burst_same (l : List Int) (k : Nat) (x : List Int) (hl : ∀ n ∈ l, U8 n) (hx : ∀ n ∈ x, U8 n) (hk : k + x.length ≤ l.length) (h4 : x.length ≤ 4)
    (h : F (~~~ V 0) (l.map V) = F (~~~ V 0) ((bu l k x x.length).map V)) : al x x.length = true := by
  have hb := burst (~~~ V 0) ((l.map V).take k) ((l.map V).drop (k + x.length)) (x.map V) (((l.map V).drop k).take x.length)
    (V_bytes hx) (by simpa using h4) (by simp; omega)
  rw [← l_split (l.map V) k x.length (by simpa using hk), ← bu_split l k x hl hx hk] at hb
  exact (al_iff x hx).1 (hb.1 h)
theorem bu_none (l : List Int) (k : Nat) (x : List Int) (hl : ∀ n ∈ l, U8 n) (h : al x x.length = true) (hk : k + x.length ≤ l.length) : ∀ j, j ≤ x.length → bu l k x j = l := by
  intro j
  induction j with
  | zero => intro _; rfl
  | succ j ih =>
    intro hj
    have ih := ih (by omega)
    simp only [bu]
    rw [ih]
    have hxj : x.getD j 0 = 0 := by
      unfold al at h
      rw [List.take_length, List.all_eq_true] at h
      have hlt : j < x.length := by omega
      have := h x[j] (List.getElem_mem hlt)
      simp only [List.getD_eq_getElem?_getD, List.getElem?_eq_getElem hlt, Option.getD_some]
      simpa using this
    have hlt : k + j < l.length := by omega
    have hgl : l.getD (k + j) 0 = l[k + j] := by simp [hlt]
    have hu : U8 l[k + j] := hl _ (List.getElem_mem hlt)
    have hz : U8 0 := ⟨by decide, by decide⟩
    have hx8 := xor8 hu hz
    have e : bits .xor .u8 l[k + j] 0 = l[k + j] := V_inj hx8.1.u32 hu.u32 (by rw [hx8.2, show V 0 = 0#32 from by decide, BitVec.xor_zero])
    rw [hxj, hgl, e]
    exact List.set_getElem_self hlt
end Tagm
namespace Go.Proofs.YthngpmiclbbpnaaGreat
open Go.RowKit Crcm Tagm Go.ChangeShapes

theorem mo_sm (m : List Int) : le 4 (uw (mo 0 m)) = le 4 (sm m) := by
  have h := sm_U32 m
  have e : mo 0 m = sm m := rfl
  rw [e]
  obtain ⟨a, b⟩ := h
  have : uw (sm m) = sm m := by unfold uw; rw [IntKind.wrap_u64]; omega
  rw [this]
/-- what differs within four bytes that stand together is torn -/
theorem torn_yes {L : List Ho} (h : ∀ o ∈ L, Bw o ∧ -9223372036854775808 ≤ o.off ∧ o.off ≤ 9223372036854775807) (hE : wE L = 0) (hs : (obs L).length ≤ 8000000) (k : Nat) (x : List Int) (hx : ∀ b ∈ x, U8 b) (h4 : x.length ≤ 4) (hk : k + x.length ≤ (wB L).length) :
    rdE (bu (wB L) k x x.length) = if al x x.length then 0 else 21 := by
  have hu := wB_U8 (fun o ho => (h o ho).1)
  have e : wB L = body L ++ le 4 (sm (body L)) := by unfold wB; rw [if_pos hE, mo_sm]
  have el : (wB L).length = (body L).length + 4 := by rw [e, List.length_append, le_length]
  have hbl := body_len L
  cases ha : al x x.length with
  | true => rw [bu_none _ k x hu ha hk _ (Nat.le_refl _), (rd_wB h hE hs).1]; rfl
  | false =>
    have hl := bu_length (wB L) k x x.length
    rw [rdE_sum (by omega) (by omega)]
    by_cases g : le 4 (uw (mo 0 ((bu (wB L) k x x.length).take ((bu (wB L) k x x.length).length - 4)))) = (bu (wB L) k x x.length).drop ((bu (wB L) k x x.length).length - 4)
    · exfalso
      have h1 := F_code ((bu (wB L) k x x.length).take ((bu (wB L) k x x.length).length - 4))
      rw [← mo_sm, g, List.take_append_drop] at h1
      have h2 := F_code (body L)
      rw [← e] at h2
      have := burst_same _ k x hu hx hk h4 (h2.trans h1.symm)
      rw [ha] at this
      cases this
    · rw [if_neg g]; rfl

end Go.Proofs.YthngpmiclbbpnaaGreat
