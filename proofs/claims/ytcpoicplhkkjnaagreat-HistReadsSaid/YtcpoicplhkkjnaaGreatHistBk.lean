/-
  The law HistBack. Nothing of one statement alone stands here but it.
-/
import Derived.Test.YtcpoicplhkkjnaaGreatHistSm
import Derived.Test.YtcpoicplhkkjnaaGreatHistF
namespace Go.Proofs.YtcpoicplhkkjnaaGreat
open Go.RowKit Crcm Tagm Go.ChangeShapes

theorem own_len {w : World} {base n : Nat} {v : Value} {zs : List Int} (h : w.ownsRow base 5 1 v n (zs.map (Value.int .u8))) : n ≤ maxLen ∧ zs.length = n := by
  have hl := h.1
  simp at hl
  refine ⟨?_, hl⟩
  rcases h.2 with ⟨-, h0⟩ | ⟨g, cap, cur, e, hg, hh, hn, hm, r⟩
  · rw [h0]; exact Nat.zero_le _
  · exact Nat.le_trans hn hm
theorem own_cap {w : World} {base n : Nat} {v : Value} {zs : List Int} (h : w.ownsRow base 5 1 v n (zs.map (Value.int .u8))) (hz : ∀ m ∈ zs, U8 m) :
    ∃ a c, v = .slice a n c ∧ Rw w a zs ∧ n ≤ c ∧ c ≤ maxLen := by
  obtain ⟨a, c, e, hr, hl, hc⟩ := Rw.of_own h hz
  refine ⟨a, c, e, hr, ?_⟩
  rcases h.2 with ⟨h1, h0⟩ | ⟨g, cap, cur, e1, hg, hh, hn, hm, r⟩
  · rw [e] at h1
    injection h1 with h1 h2 h3
    subst h3
    exact ⟨by omega, Nat.zero_le _⟩
  · rw [e] at e1
    injection e1 with e1 e2 e3
    subst e3
    exact ⟨hn, hm⟩
theorem ob_size {o : Ho} (h : Rg o) : o.path.size ≤ maxLen ∧ o.to.size ≤ maxLen ∧ o.b.length ≤ maxLen := by
  obtain ⟨-, ⟨b1, b2, b3⟩, -⟩ := h
  unfold maxLen
  omega
theorem rdL_small {l : List Int} (hu : ∀ x ∈ l, U8 x) (h : l.length ≤ 9000) : (rdL l).length ≤ maxLen ∧ (∀ o ∈ rdL l, o.path.size ≤ maxLen ∧ o.to.size ≤ maxLen ∧ o.b.length ≤ maxLen) ∧ (obs (rdL l)).length ≤ 700000 ∧ ∀ x ∈ wB (rdL l), U8 x := by
  by_cases h0 : rdE l = 0
  · obtain ⟨e1, e2, e3⟩ := wB_rd hu h0
    have hl : (obs (rdL l)).length ≤ 9000 := by
      have := congrArg List.length e3
      rw [List.length_append, body_len] at this
      omega
    have hr : ¬ 4096 < (rdL l).length ∧ ∀ o ∈ rdL l, Rg o := by
      unfold wE at e1
      by_cases g : 4096 < (rdL l).length
      · rw [if_pos g] at e1; omega
      · rw [if_neg g] at e1
        by_cases g2 : ∀ o ∈ rdL l, Rg o
        · exact ⟨g, g2⟩
        · rw [if_neg g2] at e1; omega
    exact ⟨by unfold maxLen; omega, fun o ho => ob_size (hr.2 o ho), by omega, by rw [e2]; exact hu⟩
  · have e : rdL l = [] := by unfold rdL; rw [if_neg h0]
    rw [e]
    exact ⟨Nat.zero_le _, by simp, by simp [obs], wB_U8 (by simp)⟩

set_option maxRecDepth 100000 in
set_option maxHeartbeats 4000000 in
theorem histBack_core (a : Option Addr) (n c : Nat) (L : List Ho) (a1 : Option Addr) (n1 c1 : Nat) (l : List Int) (w : World) (h : HR w a L) (hn : L.length = n) (hn2 : n ≤ maxLen) (hz : ∀ o ∈ L, SzH o) (hr : Rw w a1 l) (hl : l.length = n1) (hc : n1 ≤ c1) (hm : c1 ≤ maxLen) :
    Calls Tryz.prog 5 #[.slice a n c, .slice a1 n1 c1] w fun e w' => e = .returned (.bool true) ∧ Below w.heap.size w w' := by
  have HSz := Lib.hid (rsize_any a n c L w h hn hn2 hz)
  have HKn := Lib.hid (fun W => knownH_any W)
  have HZ2 : Hid (∀ o ∈ L, o.path.size ≤ maxLen ∧ o.to.size ≤ maxLen ∧ o.b.length ≤ maxLen) := Lib.hid (fun o ho => by have := hz o ho; unfold SzH at this; unfold maxLen; omega)
  have HOff : Hid (∀ o ∈ L, Bw o ∧ -9223372036854775808 ≤ o.off ∧ o.off ≤ 9223372036854775807) := Lib.hid (fun o ho => ⟨h.bw o ho, (hz o ho).2.2.2⟩)
  have HH := Lib.hid h
  have HN := Lib.hid hn
  have HN2 := Lib.hid hn2
  have HR := Lib.hid hr
  have HL := Lib.hid hl
  have HC := Lib.hid (show n1 ≤ c1 ∧ c1 ≤ maxLen from ⟨hc, hm⟩)
  have n9 : n1 ≤ 9223372036854775807 := by unfold maxLen at hm; omega
  clear h hn hn2 hz hr hl hc hm
  go_enter Tryz.func5, Tryz.ntmps5
  go_wp2_with fail
  refine HSz.out.mono ?_
  rintro e w1 ⟨⟨z, rfl, hzs⟩, hb1⟩
  have HB1 := Lib.hid hb1
  by_cases hbig : 20000 < z ∨ 9000 < n1
  · have HG : Hid (20000 < z ∨ 9000 < n1) := Lib.hid hbig
    clear hzs hb1
    by_cases hz1 : 20000 < z
    · have t1 : decide ((20000 : Int) < (z : Int)) = true := decide_eq_true (by omega)
      clear hbig hz1
      go_wp2_with fail
      refine (HKn.out _).mono ?_
      rintro e w2 ⟨rfl, hb2⟩
      have HB2 := Lib.hid (HB1.out.trans (hb2.mono HB1.out.size))
      clear hb2
      go_wp2
      go_ret
      exact ⟨rfl, HB2.out⟩
    · have t1 : decide ((20000 : Int) < (z : Int)) = false := decide_eq_false (by omega)
      have t2 : decide ((9000 : Int) < (n1 : Int)) = true := decide_eq_true (by omega)
      clear hbig hz1
      go_wp2_with fail
      refine (HKn.out _).mono ?_
      rintro e w2 ⟨rfl, hb2⟩
      have HB2 := Lib.hid (HB1.out.trans (hb2.mono HB1.out.size))
      clear hb2
      go_wp2
      go_ret
      exact ⟨rfl, HB2.out⟩
  have t1 : decide ((20000 : Int) < (z : Int)) = false := decide_eq_false (by omega)
  have t2 : decide ((9000 : Int) < (n1 : Int)) = false := decide_eq_false (by omega)
  have hs := hzs (by omega)
  obtain ⟨hs1, hs2⟩ := obs_szs L
  have hob : (obs L).length ≤ 700000 := by omega
  have hnn : n ≤ 1000000 := by have := HN.out; omega
  have HOs := Lib.hid (owns_any a n c L w1 (HH.out.below hb1) HN.out hnn)
  have HOb := Lib.hid hob
  have HSl := Lib.hid (rdL_small HR.out.1 (by have := HL.out; omega))
  have HRT := Lib.hid (fun (g : wE L = 0) => rd_wB HOff.out g (by omega))
  have HWL : Hid ((wB L).length ≤ 800000) := Lib.hid (by
    unfold wB
    by_cases g : wE L = 0
    · rw [if_pos g, List.length_append, le_length, body_len]; omega
    · rw [if_neg g]; simp)
  clear hzs hb1 hs hs1 hs2 hob hnn hbig
  go_wp2_with fail
  refine HOs.out.mono ?_
  rintro e w2 ⟨⟨a', cap, rfl, hr⟩, hb2⟩
  have HB2 := Lib.hid (HB1.out.trans (hb2.mono HB1.out.size))
  have HWr := Lib.hid (hwrite_any a' n cap L w2 hr HN.out HN2.out HZ2.out HOb.out)
  clear hr hb2
  go_wp2_with fail
  refine HWr.out.mono ?_
  rintro e w3 ⟨v3, rfl, ho3, hb3⟩
  obtain ⟨a3, c3, rfl, hr3, hl3, hc3⟩ := own_cap ho3 (wB_U8 HH.out.bw)
  have HB3 := Lib.hid (HB2.out.trans (hb3.mono HB2.out.size))
  have HRd := Lib.hid (hread_any a3 (wB L).length c3 (wB L) w3 hr3 rfl hl3 hc3)
  clear ho3 hb3 hr3 hl3 hc3 HWr
  go_wp2_with fail
  refine HRd.out.mono ?_
  rintro e w4 ⟨v4, rfl, hrt, hb4⟩
  obtain ⟨a4, c4, rfl, hl4, hr4⟩ := hrt.hr
  have HB4 := Lib.hid (HB3.out.trans (hb4.mono HB3.out.size))
  have HR4 := Lib.hid hr4
  clear hrt hb4 hl4 hr4 HRd
  by_cases hw : wE L = 0
  · obtain ⟨q1, q2⟩ := HRT.out hw
    have q3 : (rdL (wB L)).length = n := by rw [q2, HN.out]
    have HS := Lib.hid (sameH_eq a4 a n c4 c L w4 (by have := HR4.out; rw [q2] at this; exact this) (HH.out.below HB4.out) HN.out HN2.out)
    rw [q3, q1, hw]
    clear q1 q2 q3 hw
    go_wp2_with fail
    refine HS.out.mono ?_
    rintro e w5 ⟨rfl, hb5⟩
    have HB5 := Lib.hid (HB4.out.trans (hb5.mono HB4.out.size))
    clear hb5
    have HRe := Lib.hid (hread_any a1 n1 c1 l w5 (HR.out.below HB5.out) HL.out HC.out.1 HC.out.2)
    go_wp2_with fail
    refine HRe.out.mono ?_
    rintro e w6 ⟨v6, rfl, hrt6, hb6⟩
    obtain ⟨a6, c6, rfl, hl6, hr6⟩ := hrt6.hr
    have HB6 := Lib.hid (HB5.out.trans (hb6.mono HB5.out.size))
    have HW6 := Lib.hid (hwrite_any a6 (rdL l).length c6 (rdL l) w6 hr6 rfl HSl.out.1 HSl.out.2.1 HSl.out.2.2.1)
    clear hrt6 hb6 hl6 hr6 HRe
    go_wp2_with fail
    refine HW6.out.mono ?_
    rintro e w7 ⟨v7, rfl, ho7, hb7⟩
    obtain ⟨a7, c7, rfl, hr7, hl7, hc7⟩ := own_cap ho7 HSl.out.2.2.2
    have HB7 := Lib.hid (HB6.out.trans (hb7.mono HB6.out.size))
    by_cases h0 : rdE l = 0
    · obtain ⟨q1, q2, -⟩ := wB_rd HR.out.1 h0
      have HSb := Lib.hid (same_any a1 a7 c1 c7 n1 n1 l l w7 (HR.out.below HB7.out) (by rw [q2] at hr7; exact hr7) HL.out HL.out)
      rw [show decide (l = l) = true from decide_eq_true rfl] at HSb
      have el : (wB (rdL l)).length = n1 := by rw [q2, HL.out]
      rw [h0, q1, el]
      clear hr7 hl7 hc7 ho7 hb7 q1 q2 h0 el HW6
      go_wp2_with fail
      refine HSb.out.mono ?_
      rintro e w8 ⟨rfl, rfl⟩
      go_wp2_with fail
      refine (HKn.out _).mono ?_
      rintro e w9 ⟨rfl, hb9⟩
      have HB9 := Lib.hid (HB7.out.trans (hb9.mono HB7.out.size))
      clear hb9
      go_wp2
      go_ret
      exact ⟨rfl, HB9.out⟩
    · have x1 : (rdE l != 0) = true := by simpa using h0
      have x2 : (rdE l == 0) = false := by simpa using h0
      clear hr7 hl7 hc7 ho7 hb7 h0 HW6
      go_wp2_with fail
      refine (HKn.out _).mono ?_
      rintro e w9 ⟨rfl, hb9⟩
      have HB9 := Lib.hid (HB7.out.trans (hb9.mono HB7.out.size))
      clear hb9
      go_wp2
      go_ret
      exact ⟨rfl, HB9.out⟩
  · have y1 : (wE L == 0) = false := by simpa using hw
    have HB5 := HB4
    clear hw
    have HRe := Lib.hid (hread_any a1 n1 c1 l w4 (HR.out.below HB5.out) HL.out HC.out.1 HC.out.2)
    go_wp2_with fail
    refine HRe.out.mono ?_
    rintro e w6 ⟨v6, rfl, hrt6, hb6⟩
    obtain ⟨a6, c6, rfl, hl6, hr6⟩ := hrt6.hr
    have HB6 := Lib.hid (HB5.out.trans (hb6.mono HB5.out.size))
    have HW6 := Lib.hid (hwrite_any a6 (rdL l).length c6 (rdL l) w6 hr6 rfl HSl.out.1 HSl.out.2.1 HSl.out.2.2.1)
    clear hrt6 hb6 hl6 hr6 HRe
    go_wp2_with fail
    refine HW6.out.mono ?_
    rintro e w7 ⟨v7, rfl, ho7, hb7⟩
    obtain ⟨a7, c7, rfl, hr7, hl7, hc7⟩ := own_cap ho7 HSl.out.2.2.2
    have HB7 := Lib.hid (HB6.out.trans (hb7.mono HB6.out.size))
    by_cases h0 : rdE l = 0
    · obtain ⟨q1, q2, -⟩ := wB_rd HR.out.1 h0
      have HSb := Lib.hid (same_any a1 a7 c1 c7 n1 n1 l l w7 (HR.out.below HB7.out) (by rw [q2] at hr7; exact hr7) HL.out HL.out)
      rw [show decide (l = l) = true from decide_eq_true rfl] at HSb
      have el : (wB (rdL l)).length = n1 := by rw [q2, HL.out]
      rw [h0, q1, el]
      clear hr7 hl7 hc7 ho7 hb7 q1 q2 h0 el HW6
      go_wp2_with fail
      refine HSb.out.mono ?_
      rintro e w8 ⟨rfl, rfl⟩
      go_wp2_with fail
      refine (HKn.out _).mono ?_
      rintro e w9 ⟨rfl, hb9⟩
      have HB9 := Lib.hid (HB7.out.trans (hb9.mono HB7.out.size))
      clear hb9
      go_wp2
      go_ret
      exact ⟨rfl, HB9.out⟩
    · have x1 : (rdE l != 0) = true := by simpa using h0
      have x2 : (rdE l == 0) = false := by simpa using h0
      clear hr7 hl7 hc7 ho7 hb7 h0 HW6
      go_wp2_with fail
      refine (HKn.out _).mono ?_
      rintro e w9 ⟨rfl, hb9⟩
      have HB9 := Lib.hid (HB7.out.trans (hb9.mono HB7.out.size))
      clear hb9
      go_wp2
      go_ret
      exact ⟨rfl, HB9.out⟩

end Go.Proofs.YtcpoicplhkkjnaaGreat
