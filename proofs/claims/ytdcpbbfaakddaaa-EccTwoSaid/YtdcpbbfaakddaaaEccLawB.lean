/-
  The laws EccOne and EccTwo.
-/
import Derived.Test.YtdcpbbfaakddaaaEccLawA
import Derived.Test.YtdcpbbfaakddaaaAmongB
namespace Go.Proofs.Ytdcpbbfaakddaaa
open Go.RowKit Crcm Eccm Go.ChangeShapes

theorem pw_shl {j : Nat} (h : j < 17) : ((2 : Int) ^ j % 4294967296) = ((2 ^ j : Nat) : Int) := by
  have hp : 2 ^ j < 131072 := (Nat.pow_lt_pow_iff_right (by decide)).2 (show j < 17 from h)
  have e : (2 : Int) ^ j = ((2 ^ j : Nat) : Int) := by simp
  rw [e]
  generalize 2 ^ j = p at hp ⊢
  omega

set_option maxRecDepth 100000 in
set_option maxHeartbeats 1000000 in
theorem eccOne_walk (a : Option Addr) (len cap : Nat) (z : List Int) (at_ : Int) (w : World) (hz : Row8 w a len cap z) (w1 : (Lit.int .i64 at_).wf = true) :
    Calls Try.prog 7 #[.slice a len cap, .int .i64 at_] w fun e w' => e = .returned (.bool true) ∧ Below w.heap.size w w' := by
  obtain ⟨l, hl, hc, hr, -⟩ := hz.rw
  have hn : len ≤ maxLen := by have := hr.2.1; omega
  have hat := bounds_i64 w1
  by_cases h : (600 < len ∧ len ≤ 4096) ∨ 5000 < len
  · have HG := Lib.hid (guard_any a len cap w hn h)
    clear h hn hat
    go_enter Try.func7, Try.ntmps7
    go_wp2_with fail
    refine HG.out.mono ?_
    rintro e w2 ⟨rfl, rfl⟩
    go_wp2_with fail
    refine (known_any w).mono ?_
    rintro e w2 ⟨rfl, hb⟩
    go_wp2
    go_ret
    exact ⟨rfl, hb⟩
  · have HG := Lib.hid (short_any a len cap w hn h)
    unfold maxLen at hn
    rcases (by omega : len = 0 ∨ 4096 < len ∨ (1 ≤ len ∧ len ≤ 600)) with rfl | hbig | ⟨h0, h6⟩
    · clear h hn hat
      go_enter Try.func7, Try.ntmps7
      go_wp2_with fail
      refine HG.out.mono ?_
      rintro e w2 ⟨rfl, rfl⟩
      go_wp2_with fail
      refine (known_any w).mono ?_
      rintro e w2 ⟨rfl, hb⟩
      go_wp2
      go_ret
      exact ⟨rfl, hb⟩
    · have h1 : 1 ≤ len := by omega
      clear h hat
      go_enter Try.func7, Try.ntmps7
      go_wp2_with fail
      refine HG.out.mono ?_
      rintro e w2 ⟨rfl, rfl⟩
      go_wp2_with fail
      refine (known_any w).mono ?_
      rintro e w2 ⟨rfl, hb⟩
      go_wp2
      go_ret
      exact ⟨rfl, hb⟩
    · have f1 : ((len : Int) == 0) = false := by simp; omega
      have f2 : decide ((4096 : Int) < (len : Int)) = false := by simp; omega
      obtain ⟨b, off, rfl⟩ := hr.addr (by omega)
      have HC := Lib.hid (code_yes b off len cap l w hr hl h0 (by omega))
      obtain ⟨k, hk, hA1⟩ := among_int at_ (8 * len) (8 * (len : Int)) (by omega) hat.1 hat.2 (by omega) (by omega)
      obtain ⟨j, hj, hA2⟩ := among_int at_ 17 17 rfl hat.1 hat.2 (by decide) (by decide)
      have HA1 := Lib.hid hA1
      have HA2 := Lib.hid hA2
      have hU := hr.1
      have HR := Lib.hid hr
      have hcb := cb_lt (l := l) (by omega)
      -- the turned block, mended
      have m1 : mb (tn l k) (cb l) = some (k : Int) := by
        unfold mb; rw [bt_tn l k (by omega), tn_length]; exact mn_bit _ (by omega) (by omega)
      have HM1 : Hid (∀ w' g c', Rw w' (some ⟨g, 0, none⟩) (tn l k) → Calls Try.prog 13 #[.slice (some ⟨g, 0, none⟩) len c', .int .u32 (cb l : Nat)] w' fun e w'' => (∃ A p, e = .returned (.tuple #[.slice A len p, .int .i64 k, .int .i64 0]) ∧ Rw w'' A l) ∧ Below w'.heap.size w' w'') := Lib.hid (by
        intro w' g c' hr'
        refine (mend_yes g 0 len c' (cb l) (tn l k) w' hr' (by rw [tn_length]; exact hl) h0 (by omega) hcb).mono ?_
        obtain ⟨q1, q2, q3⟩ := mx_bit m1
        rw [q1, q2, q3, tn_tn l k (by omega) hU]
        rintro e w'' ⟨⟨A, m, p, rfl, rfl, -, hR⟩, hb⟩
        rw [hl]
        exact ⟨⟨A, p, rfl, hR⟩, hb⟩)
      have m2 : mb l (cb l ^^^ 2 ^ j) = some (-2) := mn_code _ (by omega) hj
      have hx2 : cb l ^^^ 2 ^ j < 131072 := Nat.xor_lt_two_pow (n := 17) hcb ((Nat.pow_lt_pow_iff_right (by decide)).2 hj)
      have HM2 : Hid (∀ w', Rw w' (some ⟨b, off, none⟩) l → Calls Try.prog 13 #[.slice (some ⟨b, off, none⟩) len cap, .int .u32 ((cb l ^^^ 2 ^ j : Nat) : Int)] w' fun e w'' => (∃ A p, e = .returned (.tuple #[.slice A len p, .int .i64 (-2), .int .i64 0]) ∧ Rw w'' A l) ∧ Below w'.heap.size w' w'') := Lib.hid (by
        intro w' hr'
        refine (mend_yes b off len cap (cb l ^^^ 2 ^ j) l w' hr' hl h0 (by omega) hx2).mono ?_
        obtain ⟨q1, q2, q3⟩ := mx_low m2 (by decide)
        rw [q1, q2, q3]
        rintro e w'' ⟨⟨A, m, p, rfl, rfl, -, hR⟩, hb⟩
        rw [hl]
        exact ⟨⟨A, p, rfl, hR⟩, hb⟩)
      have HX : Hid (bits .xor .u32 ((cb l : Nat) : Int) ((2 : Int) ^ j % 4294967296) = ((cb l ^^^ 2 ^ j : Nat) : Int)) := Lib.hid (by
        have hp : 2 ^ j < 131072 := (Nat.pow_lt_pow_iff_right (by decide)).2 (show j < 17 from hj)
        rw [pw_shl hj, u32_xor_nat _ _ (by omega) (by omega)])
      have HT : Hid (∀ w', Rw w' (some ⟨b, off, none⟩) l → Calls Try.prog 21 #[.slice (some ⟨b, off, none⟩) len cap, .int .i64 k] w' fun e w'' => (∃ g c', e = .returned (.slice (some ⟨g, 0, none⟩) len c') ∧ len ≤ c' ∧ Rw w'' (some ⟨g, 0, none⟩) (tn l k)) ∧ Below w'.heap.size w' w'') := Lib.hid fun w' hr' => rturned_any b off len cap k l w' hr' hl hk (by omega)
      have hkb : k ≤ 4800 := by omega
      have hjb : j ≤ 17 := by omega
      clear h hn hr hat hA1 hA2 m1 m2 hx2 hcb
      go_enter Try.func7, Try.ntmps7
      go_wp2_with fail
      refine HG.out.mono ?_
      rintro e w2 ⟨rfl, rfl⟩
      go_wp2_with fail
      refine HC.out.mono ?_
      rintro e w2 ⟨rfl, hb2⟩
      have HR2 := Lib.hid (HR.out.below hb2)
      go_wp2_with fail
      refine (HA1.out w2).mono ?_
      rintro e w3 ⟨rfl, rfl⟩
      go_wp2_with fail
      refine (HT.out w2 HR2.out).mono ?_
      rintro e w3 ⟨⟨g, c', rfl, hgc, hTn⟩, hb3⟩
      have HB3 := Lib.hid (bon hb2 hb3)
      have HR3 := Lib.hid (HR2.out.below hb3)
      have HTn := Lib.hid hTn
      clear hTn hb2 hb3 HR2
      go_wp2_with fail
      refine (HM1.out w3 g c' HTn.out).mono ?_
      rintro e w4 ⟨⟨A, p, rfl, hA⟩, hb4⟩
      have HB4 := Lib.hid (bon HB3.out hb4)
      have HR4 := Lib.hid (HR3.out.below hb4)
      have HA := Lib.hid hA
      clear hA hb4 HR3 HB3 HTn
      go_wp2_with fail
      refine (HA2.out w4).mono ?_
      rintro e w5 ⟨rfl, rfl⟩
      have e1 := HX.out
      go_wp2_with fail
      refine (HM2.out w4 HR4.out).mono ?_
      rintro e w5 ⟨⟨B, q, rfl, hB⟩, hb5⟩
      have HB5 := Lib.hid (bon HB4.out hb5)
      have HS1 := same_any A (some ⟨b, off, none⟩) p cap len len l l w5 (HA.out.below hb5) (HR4.out.below hb5) hl hl
      have HS2 := same_any B (some ⟨b, off, none⟩) q cap len len l l w5 hB (HR4.out.below hb5) hl hl
      rw [decide_eq_true rfl] at HS1 HS2
      have HS1 := Lib.hid HS1
      have HS2 := Lib.hid HS2
      clear hB hb5 HR4 HB4 HA
      go_wp2_with fail
      refine HS1.out.mono ?_
      rintro e w6 ⟨rfl, rfl⟩
      go_wp2_with fail
      refine HS2.out.mono ?_
      rintro e w6 ⟨rfl, rfl⟩
      go_wp2_with fail
      refine (known_any w5).mono ?_
      rintro e w6 ⟨rfl, hb6⟩
      go_wp2
      go_ret
      exact ⟨rfl, bon HB5.out hb6⟩

/-- a block of which a bit is turned, or not -/
def hl (l : List Int) (k : Nat) : List Int := if k < 8 * l.length then tn l k else l
theorem hl_length (l : List Int) (k : Nat) : (hl l k).length = l.length := by unfold hl; split <;> simp [tn_length]
theorem bt_hl (l : List Int) (k : Nat) : bt (hl l k) = hf (bt l) (8 * l.length) k := by
  unfold hl hf
  by_cases h : k < 8 * l.length
  · rw [if_pos h, if_pos h, bt_tn l k h]
  · rw [if_neg h, if_neg h]

set_option maxRecDepth 100000 in
set_option maxHeartbeats 1000000 in
theorem hurt_any (b off n c C k : Nat) (l : List Int) (w : World) (hr : Rw w (some ⟨b, off, none⟩) l) (hln : l.length = n) (hn : n ≤ 600) (hnc : n ≤ c) (hC : C < 131072) (hk : k < 8 * n + 17) :
    Calls Try.prog 22 #[.slice (some ⟨b, off, none⟩) n c, .int .u32 C, .int .i64 k] w fun e w' => (∃ b' off' c', e = .returned (.tuple #[.slice (some ⟨b', off', none⟩) n c', .int .u32 (hc C (8 * n) k : Nat)]) ∧ n ≤ c' ∧ Rw w' (some ⟨b', off', none⟩) (hl l k)) ∧ Below w.heap.size w w' := by
  subst hln
  by_cases h : k < 8 * l.length
  · have e1 : hc C (8 * l.length) k = C := by unfold hc; rw [if_pos h]
    have e2 : hl l k = tn l k := by unfold hl; rw [if_pos h]
    rw [e1, e2]
    have HT := Lib.hid (rturned_any b off l.length c k l w hr rfl h (by omega))
    clear e1 e2 hC
    go_enter Try.func22, Try.ntmps22
    go_wp2_with fail
    refine HT.out.mono ?_
    rintro e w3 ⟨⟨g, c', rfl, hgc, hTn⟩, hb3⟩
    have HTn := Lib.hid hTn
    clear hTn
    go_wp2
    go_ret2
    exact ⟨⟨g, 0, c', rfl, hgc, HTn.out⟩, hb3⟩
  · have e1 : hc C (8 * l.length) k = C ^^^ 2 ^ (k - 8 * l.length) := by unfold hc; rw [if_neg h]
    have e2 : hl l k = l := by unfold hl; rw [if_neg h]
    rw [e1, e2]
    obtain ⟨j, rfl⟩ : ∃ j, k = 8 * l.length + j := ⟨k - 8 * l.length, by omega⟩
    have hj : j < 17 := by omega
    rw [show 8 * l.length + j - 8 * l.length = j by omega]
    have HX : Hid (bits .xor .u32 (C : Int) ((2 : Int) ^ j % 4294967296) = ((C ^^^ 2 ^ j : Nat) : Int)) := Lib.hid (by
      have hp : 2 ^ j < 131072 := (Nat.pow_lt_pow_iff_right (by decide)).2 (show j < 17 from hj)
      rw [pw_shl hj, u32_xor_nat _ _ (by omega) (by omega)])
    have e3 := HX.out
    have e4 : ((8 * l.length + j : Nat) : Int) - 8 * (l.length : Int) = (j : Int) := by omega
    have HR := Lib.hid hr
    clear e1 e2 hC h hk HX hr
    go_enter Try.func22, Try.ntmps22
    go_wp2
    go_ret2
    exact ⟨⟨b, off, c, rfl, hnc, HR.out⟩, Below.refl _ _⟩

set_option maxRecDepth 100000 in
set_option maxHeartbeats 1000000 in
theorem eccTwo_walk (a : Option Addr) (len cap : Nat) (z : List Int) (i j : Int) (w : World) (hz : Row8 w a len cap z) (w1 : (Lit.int .i64 i).wf = true) (w2 : (Lit.int .i64 j).wf = true) :
    Calls Try.prog 8 #[.slice a len cap, .int .i64 i, .int .i64 j] w fun e w' => e = .returned (.bool true) ∧ Below w.heap.size w w' := by
  obtain ⟨l, hln, hcap, hr, -⟩ := hz.rw
  have hn : len ≤ maxLen := by have := hr.2.1; omega
  have hi := bounds_i64 w1
  have hj := bounds_i64 w2
  clear w1 w2
  by_cases h : (600 < len ∧ len ≤ 4096) ∨ 5000 < len
  · have HG := Lib.hid (guard_any a len cap w hn h)
    clear h hn hi hj
    go_enter Try.func8, Try.ntmps8
    go_wp2_with fail
    refine HG.out.mono ?_
    rintro e w2 ⟨rfl, rfl⟩
    go_wp2_with fail
    refine (known_any w).mono ?_
    rintro e w2 ⟨rfl, hb⟩
    go_wp2
    go_ret
    exact ⟨rfl, hb⟩
  · have HG := Lib.hid (short_any a len cap w hn h)
    unfold maxLen at hn
    rcases (by omega : len = 0 ∨ 4096 < len ∨ (1 ≤ len ∧ len ≤ 600)) with rfl | hbig | ⟨h0, h6⟩
    · clear h hn hi hj
      go_enter Try.func8, Try.ntmps8
      go_wp2_with fail
      refine HG.out.mono ?_
      rintro e w2 ⟨rfl, rfl⟩
      go_wp2_with fail
      refine (known_any w).mono ?_
      rintro e w2 ⟨rfl, hb⟩
      go_wp2
      go_ret
      exact ⟨rfl, hb⟩
    · have h1 : 1 ≤ len := by omega
      clear h hi hj
      go_enter Try.func8, Try.ntmps8
      go_wp2_with fail
      refine HG.out.mono ?_
      rintro e w2 ⟨rfl, rfl⟩
      go_wp2_with fail
      refine (known_any w).mono ?_
      rintro e w2 ⟨rfl, hb⟩
      go_wp2
      go_ret
      exact ⟨rfl, hb⟩
    · have f1 : ((len : Int) == 0) = false := by simp; omega
      have f2 : decide ((4096 : Int) < (len : Int)) = false := by simp; omega
      obtain ⟨b, off, rfl⟩ := hr.addr (by omega)
      have HC := Lib.hid (code_yes b off len cap l w hr hln h0 (by omega))
      obtain ⟨p, hp, hA1⟩ := among_int i (8 * len + 17) (8 * (len : Int) + 17) (by omega) hi.1 hi.2 (by omega) (by omega)
      obtain ⟨q, hq, hA2⟩ := among_int j (8 * len + 17) (8 * (len : Int) + 17) (by omega) hj.1 hj.2 (by omega) (by omega)
      have HA1 := Lib.hid hA1
      have HA2 := Lib.hid hA2
      have HR := Lib.hid hr
      have hcb := cb_lt (l := l) (by omega)
      by_cases hpq : p = q
      · have t : ((p : Int) == (q : Int)) = true := by rw [hpq]; simp
        clear h hn hr hi hj hA1 hA2 hcb hpq
        go_enter Try.func8, Try.ntmps8
        go_wp2_with fail
        refine HG.out.mono ?_
        rintro e w2 ⟨rfl, rfl⟩
        go_wp2_with fail
        refine HC.out.mono ?_
        rintro e w2 ⟨rfl, hb2⟩
        go_wp2_with fail
        refine (HA1.out w2).mono ?_
        rintro e w3 ⟨rfl, rfl⟩
        go_wp2_with fail
        refine (HA2.out w2).mono ?_
        rintro e w3 ⟨rfl, rfl⟩
        go_wp2_with fail
        refine (known_any w2).mono ?_
        rintro e w3 ⟨rfl, hb3⟩
        go_wp2
        go_ret
        exact ⟨rfl, bon hb2 hb3⟩
      · have t : ((p : Int) == (q : Int)) = false := by simp; omega
        have hx := hc_lt (n := 8 * len) hcb hp
        have hy := hc_lt (n := 8 * len) hx hq
        have HH1 := Lib.hid fun w' hr' => hurt_any b off len cap (cb l) p l w' hr' hln h6 hcap hcb hp
        have HH2 := Lib.hid fun b' off' c' w' hr' (hc' : len ≤ c') => hurt_any b' off' len c' (hc (cb l) (8 * len) p) q (hl l p) w' hr' (by rw [hl_length]; exact hln) h6 hc' hx hq
        have mnone : mb (hl (hl l p) q) (hc (hc (cb l) (8 * len) p) (8 * len) q) = none := by
          unfold mb
          rw [bt_hl, bt_hl]
          simp only [hl_length, hln]
          have := mn_two (bt l) (n := 8 * len) (by omega) hp hq hpq
          unfold cb
          rw [hln]
          exact this
        have HM := Lib.hid fun b' off' c' w' hr' => mend_yes b' off' len c' (hc (hc (cb l) (8 * len) p) (8 * len) q) (hl (hl l p) q) w' hr' (by rw [hl_length, hl_length]; exact hln) h0 (by omega) hy
        have HMX := Lib.hid (mx_none mnone)
        have hpb : p ≤ 5000 := by omega
        have hqb : q ≤ 5000 := by omega
        clear h hn hr hi hj hA1 hA2 hcb hpq hx hy mnone hp hq
        go_enter Try.func8, Try.ntmps8
        go_wp2_with fail
        refine HG.out.mono ?_
        rintro e w2 ⟨rfl, rfl⟩
        go_wp2_with fail
        refine HC.out.mono ?_
        rintro e w2 ⟨rfl, hb2⟩
        go_wp2_with fail
        refine (HA1.out w2).mono ?_
        rintro e w3 ⟨rfl, rfl⟩
        go_wp2_with fail
        refine (HA2.out w2).mono ?_
        rintro e w3 ⟨rfl, rfl⟩
        go_wp2_with fail
        refine (HH1.out w2 (HR.out.below hb2)).mono ?_
        rintro e w3 ⟨⟨b3, o3, c3, rfl, hc3, hR3⟩, hb3⟩
        have HB3 := Lib.hid (bon hb2 hb3)
        have HR3 := Lib.hid hR3
        clear hb2 hb3 hR3
        go_wp2_with fail
        refine (HH2.out b3 o3 c3 w3 HR3.out hc3).mono ?_
        rintro e w4 ⟨⟨b4, o4, c4, rfl, hc4, hR4⟩, hb4⟩
        have HB4 := Lib.hid (bon HB3.out hb4)
        have HR4 := Lib.hid hR4
        clear hb4 hR4 HR3 HB3
        go_wp2_with fail
        refine (HM.out b4 o4 c4 w4 HR4.out).mono ?_
        obtain ⟨q1, q2, q3⟩ := HMX.out
        rw [q1, q2, q3]
        clear q1 q2 q3
        rintro e w5 ⟨⟨A, m, c5, rfl, hm, -, -⟩, hb5⟩
        simp at hm
        subst hm
        have HB5 := Lib.hid (bon HB4.out hb5)
        clear hb5 HB4
        go_wp2_with fail
        refine (known_any w5).mono ?_
        rintro e w6 ⟨rfl, hb6⟩
        go_wp2
        go_ret
        exact ⟨rfl, bon HB5.out hb6⟩
end Go.Proofs.Ytdcpbbfaakddaaa
