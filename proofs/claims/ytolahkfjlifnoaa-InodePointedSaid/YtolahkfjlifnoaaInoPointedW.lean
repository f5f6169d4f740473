/-
  The statement that what is pointed to is told, and that no other pointer changes.
-/
import Derived.Test.YtolahkfjlifnoaaInoLaws
namespace Go.Proofs.Ytolahkfjlifnoaa
open Go.RowKit Crcm Tagm Inom Go.ChangeShapes

set_option maxRecDepth 100000 in
set_option maxHeartbeats 1000000 in
theorem inodePointed_walk (a : Option Addr) (len cap : Nat) (z : List Int) (K to O : Int) (w : World) (hz : Row8 w a len cap z) (_w1 : (Lit.int .i64 K).wf = true) (_w2 : (Lit.int .i64 to).wf = true) (_w3 : (Lit.int .i64 O).wf = true) :
    Calls Try.prog 9 #[.slice a len cap, .int .i64 K, .int .i64 to, .int .i64 O] w fun e w' => e = .returned (.bool true) ∧ Below w.heap.size w w' := by
  obtain ⟨l, rfl, hc, hr, -⟩ := hz.rw
  clear hz _w1 _w2 _w3
  by_cases hl : 1500 < l.length
  · have HL := Lib.hid (fun w => ilong_yes a l.length cap w hl)
    clear hl hr hc
    go_enter Try.func9, Try.ntmps9
    go_wp2_with fail
    refine (HL.out _).mono ?_
    rintro e w' ⟨rfl, rfl⟩
    go_wp2_with fail
    refine (iknown_any _).mono ?_
    rintro e w' ⟨rfl, hb⟩
    go_wp2
    go_ret
    exact ⟨rfl, hb⟩
  have HL := Lib.hid (fun w => ilong_no a l.length cap w (by omega))
  by_cases hp : (Sz l.length ∧ 0 ≤ K ∧ K < (l.length : Int) / 2) ∧ Pt to
  · obtain ⟨hs, hto⟩ := hp
    obtain ⟨k, rfl⟩ := Int.eq_ofNat_of_zero_le hs.2.1
    have hk2 : k * 2 + 2 ≤ l.length := by have := hs.2.2; omega
    have HP := Lib.hid (ipoint_yes a l.length cap k k to l w hr rfl rfl hs.1 hk2 hto)
    have E1 : pN (pset l k to) k = to ∧ pE (pset l k to) k = 0 := by
      have e : pv (pset l k to) k = to := by rw [pset_same hk2]; have := hto.1; have := hto.2; omega
      have hq : Sz ((pset l k to).length) ∧ 0 ≤ (k : Int) ∧ (k : Int) < ((pset l k to).length : Int) / 2 := by rw [pset_len hk2]; exact hs
      have := pE_yes hq (by rw [Int.toNat_natCast, e]; exact hto)
      rw [Int.toNat_natCast, e] at this
      exact ⟨this.2, this.1⟩
    have E2 : O ≠ k → pN (pset l k to) O = pN l O ∧ pE (pset l k to) O = pE l O := by
      intro hne
      have e : pE (pset l k to) O = pE l O := by
        unfold pE
        rw [pset_len hk2]
        by_cases hO : Sz l.length ∧ 0 ≤ O ∧ O < (l.length : Int) / 2
        · rw [if_pos hO, if_pos hO, pset_other hk2 (by omega)]
        · rw [if_neg hO, if_neg hO]
      refine ⟨?_, e⟩
      unfold pN
      rw [e]
      by_cases h0 : pE l O = 0
      · have hO : Sz l.length ∧ 0 ≤ O ∧ O < (l.length : Int) / 2 := by
          by_cases g : Sz l.length ∧ 0 ≤ O ∧ O < (l.length : Int) / 2
          · exact g
          · rw [(pE_no g).1] at h0; omega
        rw [if_pos h0, if_pos h0, pset_other hk2 (by omega)]
      · rw [if_neg h0, if_neg h0]
    have HR := Lib.hid hr
    have HC := Lib.hid hc
    have HLen := Lib.hid (pset_len (x := to) hk2)
    have HE1 := Lib.hid E1
    have HE2 := Lib.hid E2
    clear hs hk2 hr hc hl hto E1 E2
    by_cases hO : O = k
    · subst hO
      go_enter Try.func9, Try.ntmps9
      go_wp2_with fail
      refine (HL.out _).mono ?_
      rintro e w' ⟨rfl, rfl⟩
      go_wp2_with fail
      refine HP.out.mono ?_
      rintro e w1 ⟨⟨g, cc, rfl, hcc, hr1⟩, hb1⟩
      have HQ1 := Lib.hid (ipointer_all (some ⟨g, 0, none⟩) l.length cc k _ w1 hr1 HLen.out hcc)
      rw [HE1.out.1, HE1.out.2] at HQ1
      have HQ2 := Lib.hid (ipointer_all a l.length cap k l w1 (HR.out.below hb1) rfl HC.out)
      have HB1 := Lib.hid hb1
      generalize pN l k = x at HQ2
      generalize pE l k = f at HQ2
      clear hb1 hr1 hcc HP HL
      go_wp2_with fail
      refine HQ1.out.mono ?_
      rintro e w' ⟨rfl, rfl⟩
      go_wp2_with fail
      refine HQ2.out.mono ?_
      rintro e w' ⟨rfl, rfl⟩
      go_wp2_with fail
      refine HQ1.out.mono ?_
      rintro e w' ⟨rfl, rfl⟩
      go_wp2_with fail
      refine (iknown_any _).mono ?_
      rintro e w' ⟨rfl, hb⟩
      go_wp2
      go_ret
      exact ⟨rfl, HB1.out.trans (hb.mono HB1.out.size)⟩
    · have hO2 : ((O : Int) == k) = false := by simpa using hO
      go_enter Try.func9, Try.ntmps9
      go_wp2_with fail
      refine (HL.out _).mono ?_
      rintro e w' ⟨rfl, rfl⟩
      go_wp2_with fail
      refine HP.out.mono ?_
      rintro e w1 ⟨⟨g, cc, rfl, hcc, hr1⟩, hb1⟩
      have HQ1 := Lib.hid (ipointer_all (some ⟨g, 0, none⟩) l.length cc k _ w1 hr1 HLen.out hcc)
      rw [HE1.out.1, HE1.out.2] at HQ1
      have HQ2 := Lib.hid (ipointer_all a l.length cap O l w1 (HR.out.below hb1) rfl HC.out)
      have HQ3 := Lib.hid (ipointer_all (some ⟨g, 0, none⟩) l.length cc O _ w1 hr1 HLen.out hcc)
      rw [(HE2.out hO).1, (HE2.out hO).2] at HQ3
      have HB1 := Lib.hid hb1
      generalize pN l O = x at HQ2 HQ3
      generalize pE l O = f at HQ2 HQ3
      clear hb1 hr1 hcc HP HL
      go_wp2_with fail
      refine HQ1.out.mono ?_
      rintro e w' ⟨rfl, rfl⟩
      go_wp2_with fail
      refine HQ2.out.mono ?_
      rintro e w' ⟨rfl, rfl⟩
      go_wp2_with fail
      refine HQ3.out.mono ?_
      rintro e w' ⟨rfl, rfl⟩
      go_wp2_with fail
      refine (iknown_any _).mono ?_
      rintro e w' ⟨rfl, hb⟩
      go_wp2
      go_ret
      exact ⟨rfl, HB1.out.trans (hb.mono HB1.out.size)⟩
  · have HP := Lib.hid (fun w => ipoint_no a l.length cap K to w hp)
    clear hr hp hl hc
    go_enter Try.func9, Try.ntmps9
    go_wp2_with fail
    refine (HL.out _).mono ?_
    rintro e w' ⟨rfl, rfl⟩
    go_wp2_with fail
    refine (HP.out _).mono ?_
    rintro e w1 ⟨rfl, rfl⟩
    go_wp2_with fail
    refine (iknown_any _).mono ?_
    rintro e w' ⟨rfl, hb⟩
    go_wp2
    go_ret
    exact ⟨rfl, hb⟩

end Go.Proofs.Ytolahkfjlifnoaa
