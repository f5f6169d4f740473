/-
  The law HistReads. Nothing of one statement alone stands here but it.
-/
import Derived.Test.YtcpoicplhkkjnaaGreatHistUr
import Derived.Test.YtcpoicplhkkjnaaGreatHistBk
namespace Go.Proofs.YtcpoicplhkkjnaaGreat
open Go.RowKit Crcm Tagm Go.ChangeShapes

theorem rdL_len {l : List Int} (hu : ∀ x ∈ l, U8 x) : (rdL l).length ≤ maxLen := by
  by_cases h0 : rdE l = 0
  · obtain ⟨e1, -, -⟩ := wB_rd hu h0
    unfold wE at e1
    by_cases g : 4096 < (rdL l).length
    · rw [if_pos g] at e1; omega
    · unfold maxLen; omega
  · have e : rdL l = [] := by unfold rdL; rw [if_neg h0]
    rw [e]
    exact Nat.zero_le _

set_option maxRecDepth 100000 in
set_option maxHeartbeats 4000000 in
theorem histReads_core (a : Option Addr) (n c : Nat) (l : List Int) (s : Bool) (w : World) (hr : Rw w a l) (hl : l.length = n) (hc : n ≤ c) (hm : c ≤ maxLen) :
    Calls Tryz.prog 4 #[.slice a n c, .bool s] w fun e w' => e = .returned (.bool true) ∧ Below w.heap.size w w' := by
  have HKn := Lib.hid (fun W => knownH_any W)
  have n9 : n ≤ 9223372036854775807 := by unfold maxLen at hm; omega
  by_cases h9 : 9000 < n
  · have t1 : (9000 : Int) < (n : Int) := by omega
    clear hr hl hc hm h9
    go_enter Tryz.func4, Tryz.ntmps4
    go_wp2_with fail
    refine (HKn.out _).mono ?_
    rintro e w2 ⟨rfl, hb2⟩
    go_wp2
    go_ret
    exact ⟨rfl, hb2⟩
  have t1 : ¬ (9000 : Int) < (n : Int) := by omega
  cases s with
  | false =>
    have HRR := Lib.hid hr
    have HLL := Lib.hid hl
    have HCC := Lib.hid (show n ≤ c ∧ c ≤ maxLen from ⟨hc, hm⟩)
    have HBW := Lib.hid (Below.refl w.heap.size w)
    clear hr hl hc hm h9
    go_enter Tryz.func4, Tryz.ntmps4
    have HRe := Lib.hid (hread_any a n c l w HRR.out HLL.out HCC.out.1 HCC.out.2)
    go_wp2_with fail
    refine HRe.out.mono ?_
    rintro e w4 ⟨v4, rfl, hrt, hb4⟩
    obtain ⟨a4, c4, rfl, hl4, hr4⟩ := hrt.hr
    have HB4 := Lib.hid (HBW.out.trans (hb4.mono HBW.out.size))
    have HR4 := Lib.hid hr4
    have HRr := Lib.hid (rread_any a n c l w4 (HRR.out.below hb4) HLL.out HCC.out.1 HCC.out.2)
    clear hrt hb4 hl4 hr4 HRe
    go_wp2_with fail
    refine HRr.out.mono ?_
    rintro e w5 ⟨v5, rfl, ⟨a5, c5, rfl, hr5⟩, hb5⟩
    have HB5 := Lib.hid (HB4.out.trans (hb5.mono HB4.out.size))
    have HS := Lib.hid (sameH_eq a4 a5 (rdL l).length c4 c5 (rdL l) w5 (HR4.out.below hb5) hr5 rfl (rdL_len HRR.out.1))
    have tE : (rdE l == rdE l) = true := beq_self_eq_true _
    clear hr5 hb5 HRr
    go_wp2_with fail
    refine HS.out.mono ?_
    rintro e w6 ⟨rfl, hb6⟩
    have HB6 := Lib.hid (HB5.out.trans (hb6.mono HB5.out.size))
    clear hb6
    go_wp2_with fail
    refine (HKn.out _).mono ?_
    rintro e w7 ⟨rfl, hb7⟩
    have HB7 := Lib.hid (HB6.out.trans (hb7.mono HB6.out.size))
    clear hb7
    go_wp2
    go_ret
    exact ⟨rfl, HB7.out⟩
  | true =>
    have HR0 := Lib.hid hr
    have HL0 := Lib.hid hl
    have h90 := Lib.hid (show n ≤ 9000 by omega)
    have HSum := Lib.hid (fun (W : World) (hb : Below w.heap.size w W) => refsum_len (cap := c) (hr.below hb) hl)
    have hX2 : IntKind.u64.wrap (mo 0 l) = uw (mo 0 l) := rfl
    have HBg := Lib.hid (fun W => big_any (uw (mo 0 l)) 4 W (uw_U64 _) (by omega))
    obtain ⟨M, hM⟩ : ∃ M, mo 0 l = M := ⟨_, rfl⟩
    rw [hM] at HSum hX2 HBg
    obtain ⟨Y, hY⟩ : ∃ Y, uw M = Y := ⟨_, rfl⟩
    rw [hY] at hX2 HBg
    clear hr hl hc hm h9 hM hY
    go_enter Tryz.func4, Tryz.ntmps4
    go_wp2_with (at_builtin; refine append_bytes rfl _ _ rfl w.heap.size _ 0 [] rfl (World.ownsRow_nil w _ _ _) a n c l rfl HL0.out HR0.out.src (by have := h90.out; omega) (Nat.le_refl _) ?_)
    intro v2 w2 ho2 hb2
    have HO2 : Hid (w2.ownsRow w.heap.size 5 1 v2 n (l.map (Value.int .u8))) := Lib.hid (by simpa using ho2)
    have HB2 := Lib.hid hb2
    clear ho2 hb2
    go_wp2_with fail
    refine (HSum.out _ HB2.out).mono ?_
    rintro e w3 ⟨rfl, rfl⟩
    go_wp2_with fail
    refine (HBg.out _).mono ?_
    rintro e w3 ⟨ab, cb, rfl, hrb, hbb⟩
    have HO3 := Lib.hid (own_below HO2.out hbb)
    have HB3 := Lib.hid (HB2.out.trans (hbb.mono HB2.out.size))
    have HRb := Lib.hid hrb
    clear hrb hbb HO2
    go_wp2_with (at_builtin; refine append_bytes rfl _ _ rfl w.heap.size _ n l rfl HO3.out ab 4 cb (le 4 Y) rfl (le_length _ _) HRb.out.src (by have := h90.out; omega) HB3.out.size ?_)
    intro v4 w4' ho4 hb4
    have hu : ∀ x ∈ l ++ le 4 Y, U8 x := fun x hx => (List.mem_append.1 hx).elim (HR0.out.1 x) (le_U8 4 Y x)
    rw [← List.map_append] at ho4
    obtain ⟨aa, cA, rfl, hra, hca, hma⟩ := own_cap ho4 hu
    have HBW := Lib.hid (HB3.out.trans hb4)
    have HRR := Lib.hid hra
    have HLL : Hid ((l ++ le 4 Y).length = n + 4) := Lib.hid (by rw [List.length_append, HL0.out, le_length])
    have HCC := Lib.hid (show n + 4 ≤ cA ∧ cA ≤ maxLen from ⟨hca, hma⟩)
    clear ho4 hb4 hu hra hca hma HO3 HRb
    generalize l ++ le 4 Y = ll at HRR HLL
    obtain ⟨nn, hnn⟩ : ∃ z, n + 4 = z := ⟨_, rfl⟩
    rw [hnn] at HLL HCC ⊢
    clear hnn
    have HRe := Lib.hid (hread_any aa nn cA ll w4' HRR.out HLL.out HCC.out.1 HCC.out.2)
    go_wp2_with fail
    refine HRe.out.mono ?_
    rintro e w4 ⟨v4, rfl, hrt, hb4⟩
    obtain ⟨a4, c4, rfl, hl4, hr4⟩ := hrt.hr
    have HB4 := Lib.hid (HBW.out.trans (hb4.mono HBW.out.size))
    have HR4 := Lib.hid hr4
    have HRr := Lib.hid (rread_any aa nn cA ll w4 (HRR.out.below hb4) HLL.out HCC.out.1 HCC.out.2)
    clear hrt hb4 hl4 hr4 HRe
    go_wp2_with fail
    refine HRr.out.mono ?_
    rintro e w5 ⟨v5, rfl, ⟨a5, c5, rfl, hr5⟩, hb5⟩
    have HB5 := Lib.hid (HB4.out.trans (hb5.mono HB4.out.size))
    have HS := Lib.hid (sameH_eq a4 a5 (rdL ll).length c4 c5 (rdL ll) w5 (HR4.out.below hb5) hr5 rfl (rdL_len HRR.out.1))
    have tE : (rdE ll == rdE ll) = true := beq_self_eq_true _
    clear hr5 hb5 HRr
    go_wp2_with fail
    refine HS.out.mono ?_
    rintro e w6 ⟨rfl, hb6⟩
    have HB6 := Lib.hid (HB5.out.trans (hb6.mono HB5.out.size))
    clear hb6
    go_wp2_with fail
    refine (HKn.out _).mono ?_
    rintro e w7 ⟨rfl, hb7⟩
    have HB7 := Lib.hid (HB6.out.trans (hb7.mono HB6.out.size))
    clear hb7
    go_wp2
    go_ret
    exact ⟨rfl, HB7.out⟩

theorem histReads_walk (a0 : Option Addr) (len0 cap0 : Nat) (z0 : List Int) (s1 : Bool) (w : World) (w0 : Row8 w a0 len0 cap0 z0) :
    Calls Tryz.prog 4 #[.slice a0 len0 cap0, .bool s1] w fun e w' => e = .returned (.bool true) ∧ Below w.heap.size w w' := by
  obtain ⟨l, hl, hcap, hr, -⟩ := w0.rw
  have hm : cap0 ≤ maxLen := by
    rcases w0 with ⟨-, -, rfl, -⟩ | ⟨x, -, h1, h2, -⟩
    · exact Nat.zero_le _
    · exact h2
  exact histReads_core a0 len0 cap0 l s1 w hr hl hcap hm

end Go.Proofs.YtcpoicplhkkjnaaGreat
