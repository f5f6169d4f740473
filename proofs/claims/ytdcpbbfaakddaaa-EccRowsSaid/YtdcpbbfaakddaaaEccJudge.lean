/-
  What a block and a code are found to be: the program's judge.
-/
import Derived.Test.YtdcpbbfaakddaaaEccCode
import Derived.Test.YtdcpbbfaakddaaaLay
import Derived.Laws.BitsLemmas
namespace Go.Proofs.Ytdcpbbfaakddaaa
open Go.RowKit Crcm Eccm

theorem i64_and_nat (a b : Nat) (ha : a < 9223372036854775808) (hb : b < 9223372036854775808) : bits .and .i64 (a : Int) (b : Int) = ((a &&& b : Nat) : Int) := by
  have hx : a &&& b < 2 ^ 63 := Nat.and_lt_two_pow _ (by omega)
  show IntKind.i64.wrap ((BitVec.ofInt 64 (a : Int) &&& BitVec.ofInt 64 (b : Int)).toNat : Int) = _
  rw [BitVec.toNat_and, ofInt_u64 a (by omega), ofInt_u64 b (by omega), IntKind.wrap_i64]
  omega
theorem i64_xor_nat (a b : Nat) (ha : a < 9223372036854775808) (hb : b < 9223372036854775808) : bits .xor .i64 (a : Int) (b : Int) = ((a ^^^ b : Nat) : Int) := by
  have hx : a ^^^ b < 2 ^ 63 := Nat.xor_lt_two_pow (by omega) (by omega)
  show IntKind.i64.wrap ((BitVec.ofInt 64 (a : Int) ^^^ BitVec.ofInt 64 (b : Int)).toNat : Int) = _
  rw [BitVec.toNat_xor, ofInt_u64 a (by omega), ofInt_u64 b (by omega), IntKind.wrap_i64]
  omega

/-- what a code and a block's own differ in -/
def df (l : List Int) (c : Nat) : Nat := c ^^^ cb l
theorem cb_lt {l : List Int} (h : l.length ≤ 4096) : cb l < 131072 := cd_lt _ (by omega)
theorem df_lt {l : List Int} {c : Nat} (h : l.length ≤ 4096) (hc : c < 131072) : df l c < 131072 := Nat.xor_lt_two_pow (n := 17) hc (cb_lt h)
theorem df_low {l : List Int} {c : Nat} (h : l.length ≤ 4096) : df l c % 65536 = sy (bt l) (8 * l.length) c := by
  unfold df sy
  rw [Nat.xor_mod_two_pow (n := 16)]
  show (c % 65536) ^^^ (cb l % 65536) = _
  unfold cb
  rw [cd_low _ (by omega), Nat.xor_comm]
theorem df_odd {l : List Int} {c : Nat} (h : l.length ≤ 4096) : on (df l c) 17 % 2 = qu (bt l) (8 * l.length) c := by
  unfold df qu
  rw [on_xor]
  have := cd_on (bt l) (n := 8 * l.length) (by omega)
  unfold cb
  omega
theorem df_zero {l : List Int} {c : Nat} (h : l.length ≤ 4096) (hc : c < 131072) : df l c = 0 ↔ (sy (bt l) (8 * l.length) c = 0 ∧ qu (bt l) (8 * l.length) c = 0) := by
  rw [← df_low h, ← df_odd h]
  have hd := df_lt h hc
  constructor
  · intro e; rw [e, on_zero]; exact ⟨rfl, rfl⟩
  · rintro ⟨e1, e2⟩
    rcases (by omega : df l c = 0 ∨ df l c = 65536) with e | e
    · exact e
    · rw [e] at e2
      have : on 65536 17 = 1 := by decide +kernel
      rw [this] at e2
      cases e2
theorem andNot_par {d : Nat} (h : d < 131072) : bits .andNot .u32 (d : Int) 65536 = ((d % 65536 : Nat) : Int) := by
  rw [show (65536 : Int) = ((65536 : Nat) : Int) from rfl, u32_andNot_nat _ _ (by omega) (by decide)]
  congr 1
  apply Nat.eq_of_testBit_eq
  intro j
  rw [Nat.testBit_and, show (65536 : Nat) = 2 ^ 16 from rfl, Nat.testBit_mod_two_pow]
  by_cases hj : j < 17
  · have : ∀ j : Fin 17, (4294967295 - 2 ^ 16 : Nat).testBit j = decide (j.val < 16) := by decide +kernel
    rw [this ⟨j, hj⟩, Bool.and_comm]
  · have : d.testBit j = false := Nat.testBit_lt_two_pow (Nat.lt_of_lt_of_le (show d < 2 ^ 17 by omega) (Nat.pow_le_pow_right (by decide) (by omega)))
    rw [this]; simp
/-- kinds and bits by what comes of mending -/
def jK : Option Int → Int
  | none => 3
  | some r => if r = -1 then 0 else if r = -2 then 2 else 1
def jB : Option Int → Int
  | none => 0
  | some r => if 0 ≤ r then r else 0

theorem jK_bit (k : Nat) : jK (some (k : Int)) = 1 := by unfold jK; simp only; rw [if_neg (by omega), if_neg (by omega)]
theorem jB_bit (k : Nat) : jB (some (k : Int)) = k := by unfold jB; simp only; rw [if_pos (by omega)]
theorem mb_whole {l : List Int} {c : Nat} (hs : sy (bt l) (8 * l.length) c = 0) (hq : qu (bt l) (8 * l.length) c = 0) : mb l c = some (-1) := by
  unfold mb mn mr; rw [if_pos ⟨hs, hq⟩]
theorem mb_hurt {l : List Int} {c : Nat} (hq : qu (bt l) (8 * l.length) c = 1) (hs : sy (bt l) (8 * l.length) c = 0 ∨ pw (sy (bt l) (8 * l.length) c) = true) : mb l c = some (-2) := by
  unfold mb mn mr; rw [if_neg (by omega), if_pos ⟨hq, hs⟩]
theorem mb_even {l : List Int} {c : Nat} (hq : qu (bt l) (8 * l.length) c = 0) (hs : sy (bt l) (8 * l.length) c ≠ 0) : mb l c = none := by
  unfold mb mn mr; rw [if_neg (by omega), if_neg (by omega), if_neg (by omega)]
theorem mb_odd {l : List Int} {c k : Nat} (hq : qu (bt l) (8 * l.length) c = 1) (hs : sy (bt l) (8 * l.length) c = pl k) : mb l c = if k < 8 * l.length then some (k : Int) else none := by
  have h1 := pl_ge k
  have h2 := pl_np k
  unfold mb mn mr
  rw [hs, if_neg (by omega), if_neg (by rw [h2]; simp; omega), if_pos hq]
  by_cases h : k < 8 * l.length
  · rw [if_pos h, fnd_pl h]; rfl
  · rw [if_neg h]
    rcases hf : fnd (8 * l.length) (pl k) with _ | j
    · rfl
    · have := fnd_some hf; have := pl_inj this.2; omega
theorem bit_place (k : Nat) : pl k - (pl k).log2 - 2 = k := by have := pl_log k; omega

set_option maxRecDepth 100000 in
set_option maxHeartbeats 1000000 in
theorem judge_above (a : Option Addr) (n c : Nat) (C : Int) (w : World) (hc : 131072 ≤ C ∧ C < 4294967296) :
    Calls Try.prog 27 #[.slice a n c, .int .u32 C] w fun e w' => e = .returned (.tuple #[.int .i64 3, .int .i64 0]) ∧ w = w' := by
  obtain ⟨h0, h1⟩ := hc
  go_enter Try.func27, Try.ntmps27
  go_wp2
  go_ret2
  exact ⟨rfl, rfl⟩

set_option maxRecDepth 100000 in
set_option maxHeartbeats 4000000 in
theorem judge_any (b off n c C : Nat) (l : List Int) (w : World) (hr : Rw w (some ⟨b, off, none⟩) l) (hl : l.length = n) (hn : n ≤ 4096) (hc : C < 131072) :
    Calls Try.prog 27 #[.slice (some ⟨b, off, none⟩) n c, .int .u32 C] w fun e w' => e = .returned (.tuple #[.int .i64 (jK (mb l C)), .int .i64 (jB (mb l C))]) ∧ Below w.heap.size w w' := by
  subst hl
  have hd := df_lt hn hc
  have hz := df_zero hn hc
  have hlo := df_low (c := C) hn
  have hodd := df_odd (c := C) hn
  have HD : Hid (bits .xor .u32 (C : Int) ((cb l : Nat) : Int) = ((df l C : Nat) : Int)) := Lib.hid (u32_xor_nat _ _ (by omega) (by have := cb_lt hn; omega))
  have HA : Hid (bits .andNot .u32 ((df l C : Nat) : Int) 65536 = ((df l C % 65536 : Nat) : Int)) := Lib.hid (andNot_par hd)
  have HC := Lib.hid (codeOf_any b off l.length c l w hr rfl hn)
  have HO : Hid (∀ w', Calls Try.prog 38 #[.int .u32 ((df l C : Nat) : Int)] w' fun e w'' => e = .returned (.int .i64 (on (df l C) 17 : Nat)) ∧ Below w'.heap.size w' w'') := Lib.hid fun w' => by
    have h := ones32_any ((df l C : Nat) : Int) w' ⟨by omega, by omega⟩
    rwa [Int.toNat_natCast, on_more (n := 17) (by omega) (by decide)] at h
  have hon := on_le (df l C) 17
  generalize on (df l C) 17 = q at HO hodd hon
  generalize hsd : df l C % 65536 = s at HA hlo
  have hs : s ≤ 65535 := by omega
  have t0 : decide ((131072 : Int) ≤ (C : Int)) = false := by simp; omega
  generalize df l C = d at HD HA HO hd hz hsd
  generalize hD : cb l = D at HD HC
  have hD0 : D < 131072 := by rw [← hD]; exact cb_lt hn
  clear hsd hD
  have e1 := HD.out
  have e2 := HA.out
  have HHC := Lib.hid hc
  clear HD HA hc hd hD0
  by_cases hd0 : d = 0
  · obtain ⟨hs0, hq0⟩ := hz.1 hd0
    have HM := Lib.hid (mb_whole hs0 hq0)
    have t1 : ((d : Int) == 0) = true := by rw [hd0]; rfl
    clear hz hd0 hs0 hq0 hlo hodd
    go_enter Try.func27, Try.ntmps27
    go_wp2_with fail
    refine HC.out.mono ?_
    rintro e w2 ⟨rfl, hb1⟩
    go_wp2_with fail
    refine (HO.out w2).mono ?_
    rintro e w3 ⟨rfl, hb2⟩
    go_wp2
    go_ret2
    exact ⟨by rw [HM.out]; rfl, bon hb1 hb2⟩
  · have t1 : ((d : Int) == 0) = false := by simpa using hd0
    by_cases hq : q % 2 = 1
    · have t2 : ((q : Int) % 2 == 1) = true := by simp; omega
      rw [hq] at hodd
      by_cases hp : s = 0 ∨ pw s = true
      · have HM := Lib.hid (mb_hurt hodd.symm (by rw [← hlo]; exact hp))
        have t3 : (bits .and .i64 (s : Int) ((s : Int) - 1) == 0) = true := by
          rcases hp with rfl | hp
          · decide
          · have h0 : 0 < s := by
              rcases Nat.eq_zero_or_pos s with rfl | h
              · rw [pw_zero] at hp; cases hp
              · exact h
            rw [show ((s : Int) - 1) = ((s - 1 : Nat) : Int) by omega, i64_and_nat _ _ (by omega) (by omega), (and_pred h0).2 hp]; rfl
        clear hz hd0 hq hodd hlo hp
        go_enter Try.func27, Try.ntmps27
        go_wp2_with fail
        refine HC.out.mono ?_
        rintro e w2 ⟨rfl, hb1⟩
        go_wp2_with fail
        refine (HO.out w2).mono ?_
        rintro e w3 ⟨rfl, hb2⟩
        go_wp2
        go_ret2
        exact ⟨by rw [HM.out]; rfl, bon hb1 hb2⟩
      · have hs3 : 3 ≤ s := by
          rcases (by omega : s = 0 ∨ s = 1 ∨ s = 2 ∨ 3 ≤ s) with h | h | h | h
          · exact absurd (.inl h) hp
          · subst h; exact absurd (.inr (by decide)) hp
          · subst h; exact absurd (.inr (by decide)) hp
          · exact h
        have hnp : pw s = false := by
          rcases h : pw s with _ | _
          · rfl
          · exact absurd (.inr h) hp
        have t3 : (bits .and .i64 (s : Int) ((s : Int) - 1) == 0) = false := by
          rw [show ((s : Int) - 1) = ((s - 1 : Nat) : Int) by omega, i64_and_nat _ _ (by omega) (by omega)]
          simp only [beq_eq_false_iff_ne, ne_eq]
          intro e
          have := (and_pred (by omega)).1 (by omega : s &&& (s - 1) = 0)
          rw [hnp] at this; cases this
        obtain ⟨k, hk⟩ := pl_all hs3 hnp
        have HM := Lib.hid (mb_odd hodd.symm (by rw [← hlo]; exact hk.symm))
        have HB : Hid (∀ w', Calls Try.prog 40 #[.int .i64 (s : Int)] w' fun e w'' => e = .returned (.int .i64 (k : Nat)) ∧ w' = w'') := Lib.hid fun w' => by
          have h := bitAt_any s w' hs3 (by omega)
          rwa [← hk, bit_place, hk] at h
        have hk8 : k ≤ 65536 := by have := pl_ge k; omega
        clear hz hd0 hq hodd hlo hp hs3 hnp hk
        by_cases hlt : k < 8 * l.length
        · 
          go_enter Try.func27, Try.ntmps27
          go_wp2_with fail
          refine HC.out.mono ?_
          rintro e w2 ⟨rfl, hb1⟩
          go_wp2_with fail
          refine (HO.out w2).mono ?_
          rintro e w3 ⟨rfl, hb2⟩
          go_wp2_with fail
          refine (HB.out _).mono ?_
          rintro e w4 ⟨rfl, rfl⟩
          go_wp2_with fail
          refine (HB.out _).mono ?_
          rintro e w4 ⟨rfl, rfl⟩
          go_wp2
          go_ret2
          exact ⟨by rw [HM.out, if_pos hlt, jK_bit, jB_bit]; rfl, bon hb1 hb2⟩
        · 
          go_enter Try.func27, Try.ntmps27
          go_wp2_with fail
          refine HC.out.mono ?_
          rintro e w2 ⟨rfl, hb1⟩
          go_wp2_with fail
          refine (HO.out w2).mono ?_
          rintro e w3 ⟨rfl, hb2⟩
          go_wp2_with fail
          refine (HB.out _).mono ?_
          rintro e w4 ⟨rfl, rfl⟩
          go_wp2
          go_ret2
          exact ⟨by rw [HM.out, if_neg hlt]; rfl, bon hb1 hb2⟩
    · have t2 : ((q : Int) % 2 == 1) = false := by simp; omega
      have hq0 : q % 2 = 0 := by omega
      rw [hq0] at hodd
      have HM := Lib.hid (mb_even hodd.symm (fun e => hd0 (hz.2 ⟨e, hodd.symm⟩)))
      clear hz hd0 hq hodd hlo hq0
      go_enter Try.func27, Try.ntmps27
      go_wp2_with fail
      refine HC.out.mono ?_
      rintro e w2 ⟨rfl, hb1⟩
      go_wp2_with fail
      refine (HO.out w2).mono ?_
      rintro e w3 ⟨rfl, hb2⟩
      go_wp2
      go_ret2
      exact ⟨by rw [HM.out]; rfl, bon hb1 hb2⟩

end Go.Proofs.Ytdcpbbfaakddaaa
