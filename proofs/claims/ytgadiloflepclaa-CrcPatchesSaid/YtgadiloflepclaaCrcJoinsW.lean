/-
  The statement on the sum of two rows of bytes, one behind the other.
-/
import Derived.Test.YtgadiloflepclaaCrcZerosW
import Derived.Laws.AppendOwnNone
namespace Crcm

theorem join_F (a b : BitVec 32) (l m : List (BitVec 32)) : F a (l ++ m) = it (8 * m.length) (F a l ^^^ b) ^^^ F b m := by
  rw [F_append, F_from m (F a l), F_from m b, it_xor]
  generalize it (8 * m.length) (F a l) = p
  generalize it (8 * m.length) b = q
  rw [BitVec.xor_assoc, xss]

theorem set_F (a : BitVec 32) (l m : List (BitVec 32)) (x y : BitVec 32) : F a (l ++ y :: m) = F a (l ++ x :: m) ^^^ it (8 * m.length) (it 8 (x ^^^ y)) := by
  rw [F_append, F_append, F_cons, F_cons, F_from m (it 8 (F a l ^^^ y)), F_from m (it 8 (F a l ^^^ x)), it_xor, it_xor, it_xor, it_xor, it_xor, it_xor]
  generalize it (8 * m.length) (it 8 (F a l)) = p
  generalize it (8 * m.length) (it 8 x) = q
  generalize it (8 * m.length) (it 8 y) = r
  generalize F 0#32 m = s
  rw [BitVec.xor_assoc, BitVec.xor_assoc, BitVec.xor_assoc, ← BitVec.xor_assoc s q r, BitVec.xor_comm s q, BitVec.xor_assoc q s r, xss, BitVec.xor_comm s r]

end Crcm
namespace Go.Proofs.Ytgadiloflepclaa
open Go.RowKit Crcm Go.ChangeShapes

/-- the sum of two rows comes of both -/
def jn (a b : Int) (n : Nat) : Int := N (it (8 * n) (V a) ^^^ V b)
theorem jn_mo (l m : List Int) : jn (mo 0 l) (mo 0 m) m.length = mo 0 (l ++ m) := by
  unfold jn mo
  rw [V_N, V_N, List.map_append, join_F (~~~ V 0) (~~~ V 0) (l.map V) (m.map V), List.length_map]
  congr 1
  have e : ~~~ V 0 = BitVec.allOnes 32 := by decide
  rw [e]
  generalize F (BitVec.allOnes 32) (l.map V) = p
  generalize F (BitVec.allOnes 32) (m.map V) = q
  have e2 : ~~~ p = p ^^^ BitVec.allOnes 32 := by rw [BitVec.xor_allOnes]
  rw [e2]
  generalize it (8 * m.length) (p ^^^ BitVec.allOnes 32) = t
  rw [← BitVec.xor_allOnes (x := q), ← BitVec.xor_allOnes (x := t ^^^ q), BitVec.xor_assoc]

set_option maxRecDepth 100000 in
theorem join_ok (a b : Int) (n : Nat) (w : World) (ha : U32 a) (hb : U32 b) (hn : n ≤ 1073741824) :
    Calls Try.prog 25 #[.int .u32 a, .int .u32 b, .int .i64 n] w fun e w' => e = .returned (.tuple #[.int .u32 (jn a b n), .int .i64 0]) ∧ Below w.heap.size w w' := by
  have HO := Lib.hid (fun w => over_any a n w ha hn)
  have h1 : decide ((1073741824 : Int) < (n : Int)) = false := by simp; omega
  clear hn
  go_enter Try.func25, Try.ntmps25
  go_wp2_with (go_at_call 52; refine (HO.out _).mono ?_; rintro e w' ⟨rfl, hb⟩)
  go_ret2
  exact ⟨by rw [xor32 (U32_N _) ‹U32 b›, V_N]; rfl, by assumption⟩

set_option maxRecDepth 100000 in
theorem join_odd (a b n : Int) (w : World) (h : Odd n) :
    Calls Try.prog 25 #[.int .u32 a, .int .u32 b, .int .i64 n] w fun e w' => e = .returned (.tuple #[.int .u32 0, .int .i64 1]) ∧ w = w' := by
  by_cases h0 : n < 0
  · clear h
    go_enter Try.func25, Try.ntmps25
    go_wp2_with fail
    go_ret2
    exact ⟨rfl, rfl⟩
  · have h1 : 1073741824 < n := by rcases h with h | h <;> omega
    clear h
    go_enter Try.func25, Try.ntmps25
    go_wp2_with fail
    go_ret2
    exact ⟨rfl, rfl⟩

/-- bytes that are to be appended: none, by no address; or from an address on -/
def Src (w : World) (A : Option Addr) (c : Nat) (l : List Int) : Prop :=
  (A = none ∧ c = 0 ∧ l = []) ∨ ∃ ad, A = some ad ∧ ∀ j, j < l.length → w.cell? (ad.add j) = some (.int .u8 (l.getD j 0))
theorem Src.below {w w' : World} {A : Option Addr} {c : Nat} {l : List Int} (h : Src w A c l) (hb : Below w.heap.size w w') : Src w' A c l := by
  rcases h with h | ⟨ad, rfl, h⟩
  · exact .inl h
  · exact .inr ⟨ad, rfl, fun j hj => by rw [hb.cell (block_lt_of_cell (h j hj))]; exact h j hj⟩
theorem Row8.src {w : World} {a : Option Addr} {len cap : Nat} {zs : List Int} (h : Row8 w a len cap zs) : Src w a cap (zs.take len) := by
  rcases h with ⟨rfl, rfl, rfl, rfl⟩ | ⟨x, rfl, hl, hm, hz, hc, hw⟩
  · exact .inl ⟨rfl, rfl, rfl⟩
  · refine .inr ⟨x, rfl, fun j hj => ?_⟩
    rw [List.length_take] at hj
    have hj' : j < len := by omega
    rw [hc j (by omega)]
    simp [List.getD_eq_getElem?_getD, hj']

theorem append_bytes {w : World} {ops : Array Oper} {rest : List Oper} {o : Oper} {a : Act} {Q : Exit → Act → World → Prop} (hgd : o.guard = none) (s x : Operand)
    (ho : o.op = .call { callee := .builtin .append, args := #[s, x], argTypes := #[26, 26] })
    (base : Nat) (v : Value) (n : Nat) (xs : List Int) (hs : a.eval s = v) (hown : w.ownsRow base 5 1 v n (xs.map (Value.int .u8)))
    (A : Option Addr) (m c : Nat) (l : List Int) (hx : a.eval x = .slice A m c) (hl : l.length = m) (hsrc : Src w A c l) (h63 : n + m ≤ 1000000) (hbase : base ≤ w.heap.size)
    (h : ∀ v' w', w'.ownsRow base 5 1 v' (n + m) ((xs ++ l).map (Value.int .u8)) → Below base w w' → wpList Try.prog ops Q rest (a.put o.dst v') w') : wpList Try.prog ops Q (o :: rest) a w := by
  obtain ⟨i0, hi, hz0, hz1, hz2⟩ := info_parts Try.info8z
  rcases hsrc with ⟨rfl, rfl, rfl⟩ | ⟨ad, rfl, hc⟩
  · simp at hl
    subst hl
    refine wpList_append_own_none hgd s x 26 ho base 5 i0 1 Try.underlying26 hi v n _ hs hown hx ?_
    exact h v w (by simpa using hown) (Below.refl _ _)
  · refine wpList_append_own w hgd s x 26 ho base 5 i0 (.int .u8 0) 1 1 Try.underlying26 hi hz0 hz1 hz2 rfl (by decide) v n _ hs hown ad m c (l.map (Value.int .u8)) hx (by simp [hl]) ?_ ?_ (by unfold maxLen; omega) (by omega) hbase ?_
    · intro j u hu
      rw [List.getElem?_map] at hu
      by_cases hj : j < l.length
      · rw [hc j hj]
        simpa [hj] using hu
      · simp [List.getElem?_eq_none (by omega : l.length ≤ j)] at hu
    · intro u hu; obtain ⟨n, -, rfl⟩ := List.mem_map.1 hu; rfl
    · intro v' w' h1 h2 _
      rw [← List.map_append] at h1
      exact h v' w' h1 ((Below.refl _ _).grown h2 hbase (fun g hg => (hown.lt g hg).1))

theorem join_told (n : Int) : ∃ f x : Int, (f = 0 ∧ 0 ≤ n ∧ n ≤ 1073741824 ∨ f = 1 ∧ Odd n) ∧
    ∀ w, Calls Try.prog 25 #[.int .u32 1, .int .u32 2, .int .i64 n] w fun e w' => e = .returned (.tuple #[.int .u32 x, .int .i64 f]) ∧ Below w.heap.size w w' := by
  by_cases h : Odd n
  · exact ⟨1, 0, .inr ⟨rfl, h⟩, fun w => (join_odd 1 2 n w h).mono fun e w' ⟨h1, h2⟩ => ⟨h1, by rw [← h2]; exact Below.refl _ _⟩⟩
  · unfold Odd at h
    obtain ⟨k, rfl⟩ : ∃ k : Nat, n = k := ⟨n.toNat, by omega⟩
    exact ⟨0, _, .inl ⟨rfl, by omega, by omega⟩, fun w => join_ok 1 2 k w ⟨by decide, by decide⟩ ⟨by decide, by decide⟩ (by omega)⟩

theorem refsum_len {a : Option Addr} {cap len : Nat} {zs : List Int} {w : World} (hr : Rw w a zs) (hl : zs.length = len) :
    Calls Try.prog 20 #[.slice a len cap] w fun e w' => e = .returned (.int .u32 (mo 0 zs)) ∧ w = w' := by
  subst hl
  exact refsum_any _ _ _ _ hr

set_option maxRecDepth 100000 in
set_option maxHeartbeats 400000 in
theorem crcJoins_long (a0 : Option Addr) (cap0 : Nat) (l : List Int) (a1 : Option Addr) (cap1 : Nat) (m : List Int) (a2 : Int) (w : World) (h : 2000 < l.length ∨ 2000 < m.length) :
    Calls Try.prog 6 #[.slice a0 l.length cap0, .slice a1 m.length cap1, .int .i64 a2] w fun e w' => e = .returned (.bool true) ∧ Below w.heap.size w w' := by
  by_cases hl : 2000 < l.length
  · go_enter Try.func6, Try.ntmps6
    go_wp2_with (first | (go_at_call 18; refine (long_yes _ _ _ _ hl).mono ?_; rintro e w' ⟨rfl, rfl⟩) | (go_at_call 17; refine (known_any _).mono ?_; rintro e w' ⟨rfl, hb⟩))
    go_ret
    exact ⟨rfl, hb⟩
  · have hl' : l.length ≤ 2000 := by omega
    have hm : 2000 < m.length := by omega
    have H0 := Lib.hid (fun w => long_no a0 l.length cap0 w hl')
    have H1 := Lib.hid (fun w => long_yes a1 m.length cap1 w hm)
    go_enter Try.func6, Try.ntmps6
    go_wp2_with fail
    refine (H0.out _).mono ?_
    rintro e w' ⟨rfl, rfl⟩
    go_wp2_with fail
    refine (H1.out _).mono ?_
    rintro e w' ⟨rfl, rfl⟩
    go_wp2_with fail
    refine (known_any _).mono ?_
    rintro e w' ⟨rfl, hb⟩
    go_wp2
    go_ret
    exact ⟨rfl, hb⟩

set_option maxRecDepth 100000 in
set_option maxHeartbeats 400000 in
theorem crcJoins_short (a0 : Option Addr) (cap0 : Nat) (l : List Int) (a1 : Option Addr) (cap1 : Nat) (m : List Int) (a2 : Int) (w : World) (hl : l.length ≤ 2000) (hm : m.length ≤ 2000)
    (hr0 : Rw w a0 l) (hs0 : Src w a0 cap0 l) (hr1 : Rw w a1 m) (hs1 : Src w a1 cap1 m) :
    Calls Try.prog 6 #[.slice a0 l.length cap0, .slice a1 m.length cap1, .int .i64 a2] w fun e w' => e = .returned (.bool true) ∧ Below w.heap.size w w' := by
  have H0 := Lib.hid (fun w => long_no a0 l.length cap0 w hl)
  have H1 := Lib.hid (fun w => long_no a1 m.length cap1 w hm)
  go_enter Try.func6, Try.ntmps6
  go_wp2_with fail
  refine (H0.out _).mono ?_
  rintro e w' ⟨rfl, rfl⟩
  go_wp2_with fail
  refine (H1.out _).mono ?_
  rintro e w' ⟨rfl, rfl⟩
  go_wp2_with (at_builtin; refine append_bytes rfl _ _ rfl w.heap.size (.slice none 0 0) 0 [] rfl (World.ownsRow_nil _ _ _ _) a0 l.length cap0 l rfl rfl hs0 (by omega) (Nat.le_refl _) ?_)
  intro v1 w1 hown1 hb1
  have hs1' := hs1.below hb1
  go_wp2_with (at_builtin; refine append_bytes rfl _ _ rfl w.heap.size v1 _ _ rfl hown1 a1 m.length cap1 m rfl rfl hs1' (by omega) hb1.size ?_)
  intro v2 w2 hown2 hb2
  have hb12 := hb1.trans hb2
  have hz : ∀ n ∈ l ++ m, U8 n := fun n hn => by rcases List.mem_append.1 hn with h | h; exact hr0.1 n h; exact hr1.1 n h
  rw [← List.map_append] at hown2
  obtain ⟨a4, cap4, rfl, hr4, hl4⟩ := Rw.of_row (zs := l ++ m) hown2 hz
  have hr0' := hr0.below hb12
  have hr1' := hr1.below hb12
  have HL := Lib.hid hl4
  obtain ⟨f, x, hf, hcon⟩ := join_told a2
  have HJ := Lib.hid (fun w => join_ok (mo 0 l) (mo 0 m) m.length w (U32_mo _ _) (U32_mo _ _) (by omega))
  simp only [jn_mo] at HJ
  have HF := Lib.hid hf
  have HCON := Lib.hid hcon
  clear hown1 hown2 hs0 hs1 hs1' hl4 hr0 hr1 hb1 hb2 hz hcon hf
  go_wp2_with fail
  refine (sum_any _ _ _ _ hr0').mono ?_
  rintro e w' ⟨rfl, rfl⟩
  go_wp2_with fail
  refine (sum_any _ _ _ _ hr1').mono ?_
  rintro e w' ⟨rfl, rfl⟩
  go_wp2_with fail
  refine (HJ.out _).mono ?_
  rintro e w3 ⟨rfl, hb3⟩
  have hr4' := hr4.below hb3
  go_wp2_with fail
  refine (HCON.out _).mono ?_
  rintro e w4 ⟨rfl, hb4⟩
  have hr4'' := hr4'.below hb4
  have hb := hb12.trans ((hb3.mono hb12.size).trans (hb4.mono (Nat.le_trans hb12.size hb3.size)))
  clear hr4 hr4' hb3 hb4 hb12 hr0' hr1'
  go_wp2_with fail
  refine (refsum_len hr4'' HL.out).mono ?_
  rintro e w' ⟨rfl, rfl⟩
  rcases HF.out with ⟨rfl, g0, g1⟩ | ⟨rfl, g⟩
  · go_wp2_with fail
    refine (known_any _).mono ?_
    rintro e w5 ⟨rfl, hb5⟩
    go_wp2
    go_ret
    exact ⟨rfl, hb.trans (hb5.mono hb.size)⟩
  · by_cases g0 : a2 < 0
    · clear g
      go_wp2_with fail
      refine (known_any _).mono ?_
      rintro e w5 ⟨rfl, hb5⟩
      go_wp2
      go_ret
      exact ⟨rfl, hb.trans (hb5.mono hb.size)⟩
    · have g1 : 1073741824 < a2 := by rcases g with h | h <;> omega
      have g2 : decide (a2 ≤ 1073741824) = false := by simp; omega
      clear g
      go_wp2_with fail
      refine (known_any _).mono ?_
      rintro e w5 ⟨rfl, hb5⟩
      go_wp2
      go_ret
      exact ⟨rfl, hb.trans (hb5.mono hb.size)⟩

theorem crcJoins_walk (a0 : Option Addr) (len0 cap0 : Nat) (z0 : List Int) (a1 : Option Addr) (len1 cap1 : Nat) (z1 : List Int) (a2 : Int) (w : World) (w0 : Row8 w a0 len0 cap0 z0) (w1 : Row8 w a1 len1 cap1 z1) (_w2 : (Lit.int .i64 a2).wf = true) :
    Calls Try.prog 6 #[.slice a0 len0 cap0, .slice a1 len1 cap1, .int .i64 a2] w fun e w' => e = .returned (.bool true) ∧ Below w.heap.size w w' := by
  have s0 := w0.src
  have s1 := w1.src
  obtain ⟨l, rfl, hcap, hr, e0⟩ := w0.rw
  obtain ⟨m, rfl, hcap1, hr1, e1⟩ := w1.rw
  rw [← e0] at s0
  rw [← e1] at s1
  by_cases h : 2000 < l.length ∨ 2000 < m.length
  · exact crcJoins_long a0 cap0 l a1 cap1 m a2 w h
  · exact crcJoins_short a0 cap0 l a1 cap1 m a2 w (by omega) (by omega) hr s0 hr1 s1

end Go.Proofs.Ytgadiloflepclaa
