/-
  How many pages a directory takes, and how many more a file takes: the program's answers and the document's. Nothing of one statement alone stands here.
-/
import Derived.Test.YtladgfonkolpmaaRoomMore
namespace Go.Proofs.Ytladgfonkolpmaa
open Go.RowKit Crcm Tagm Inom Roomm Go.ChangeShapes

set_option maxRecDepth 100000 in
set_option maxHeartbeats 8000000 in
theorem dir_any (s k : Int) (w : World) (hk1 : k ≤ 9223372036854775807) : Calls Try.prog 26 #[.int .i64 s, .int .i64 k] w fun e w' => e = .returned (.tuple #[.int .i64 (dN s k), .int .i64 (dE s k)]) ∧ Below w.heap.size w w' := by
  by_cases h : Sz s ∧ 0 ≤ k
  · obtain ⟨hs, hk0⟩ := h
    have HS := Lib.hid (fun w => rsized_any s w)
    rw [decide_eq_true hs] at HS
    have HT := Lib.hid (fun n w => to_any s n w)
    unfold wy at HT
    have HD := Lib.hid (fun g => dE_bad (s := s) (k := k) ⟨hs, hk0⟩ g)
    have HD2 := Lib.hid (fun g => dE_ok (s := s) (k := k) ⟨hs, hk0⟩ g)
    have HN := Lib.hid (fun g => dN_ok (s := s) (k := k) g)
    have HN2 := Lib.hid (fun g => dN_no (s := s) (k := k) g)
    have hnil := fN_nil hs
    have HNil := Lib.hid hnil
    clear hnil
    generalize dN s k = rn at HN HN2 ⊢
    generalize dE s k = re at HD HD2 HN HN2 ⊢
    have HFl := Lib.hid (fun m (h : m ≤ pgs s) => fE_upto hs h)
    rcases hs with rfl | rfl | rfl | rfl
    · have hpgs : pgs 64 = 1062 := by decide
      have hpg : dpg 64 k = k / 4 + if 0 < k % 4 then 1 else 0 := rfl
      rw [hpgs] at HD HD2 HFl
      generalize hm : k / 4 = m at hpg
      generalize hr : k % 4 = r at hpg
      have hm0 : 0 ≤ m := by omega
      have hmk : m ≤ k := by omega
      have hr0 : 0 ≤ r := by omega
      by_cases hrp : 0 < r
      · rw [if_pos hrp] at hpg
        rw [hpg] at HD HD2 HN
        have HQ := Lib.hid (HT.out m)
        clear HT hpg
        by_cases hb : 1062 < m + 1
        · have hE : toE 64 m = 52 := toE_index (by decide) (.inr (by rw [hpgs]; omega))
          rw [hE] at HQ
          have R1 := Lib.hid (HD.out hb)
          have R2 := Lib.hid (HN2.out (by rw [R1.out]; decide))
          generalize tl 64 m = a1 at HQ
          generalize tf 64 m = a2 at HQ
          generalize tc 64 m = a3 at HQ
          clear hE HD HD2 HN HN2
          go_enter Try.func26, Try.ntmps26
          go_wp2_with fail
          refine (HS.out _).mono ?_
          rintro e w' ⟨rfl, rfl⟩
          go_wp2_with fail
          refine (HQ.out _).mono ?_
          rintro e w1 ⟨rfl, hb1⟩
          have B1 := Lib.hid hb1
          clear hb1
          go_wp2
          go_ret2
          exact ⟨by rw [R1.out, R2.out]; rfl, B1.out.alloc B1.out.size _⟩
        · have hE : toE 64 m = 0 := toE_iff.2 ⟨by decide, hm0, by rw [hpgs]; omega⟩
          rw [hE] at HQ
          have R1 := Lib.hid (HD2.out hb)
          have R2 := Lib.hid (HN.out R1.out)
          have R3 := Lib.hid (HFl.out (m + 1) (by omega))
          have hpm : m + 1 ≤ 1062 := by omega
          generalize tl 64 m = a1 at HQ
          generalize tf 64 m = a2 at HQ
          generalize tc 64 m = a3 at HQ
          have HW := Lib.hid (fun W => with_any [] none 0 0 0 (m + 1) W Ri.nil rfl (by omega) (by unfold I64; omega) (by unfold I64; omega))
          rw [srt_upto (m := m + 1) (by omega)] at HW
          have HF := Lib.hid (fun W A cc (hr : Ri W A (upto 0 (m + 1))) => file_any 64 (upto 0 (m + 1)) A cc (upto 0 (m + 1)).length W hr rfl (by rw [upto_length]; omega))
          rw [R3.out] at HF
          generalize fN 64 (upto 0 (m + 1)) = q at HF R2
          generalize upto 0 (m + 1) = u at HW HF
          clear hE HD HD2 HN HN2 HFl R3
          go_enter Try.func26, Try.ntmps26
          go_wp2_with fail
          refine (HS.out _).mono ?_
          rintro e w' ⟨rfl, rfl⟩
          go_wp2_with fail
          refine (HQ.out _).mono ?_
          rintro e w1 ⟨rfl, hb1⟩
          have B1 : Hid (Below w.heap.size w (w1.alloc (.cells #[.int .i64 a1, .int .i64 a2, .int .i64 a3] 59))) := Lib.hid (hb1.alloc hb1.size _)
          clear hb1
          go_wp2_with fail
          refine (HW.out _).mono ?_
          rintro e w2 ⟨A, cc, rfl, -, hri, hb2⟩
          have B2 := Lib.hid (B1.out.trans (hb2.mono B1.out.size))
          have HRi := Lib.hid hri
          clear hb2 hri HW
          go_wp2_with fail
          refine (HF.out _ _ _ HRi.out).mono ?_
          rintro e w3 ⟨rfl, hb3⟩
          have B3 := Lib.hid (B2.out.trans (hb3.mono B2.out.size))
          clear hb3
          go_wp2
          go_ret2
          exact ⟨by rw [R1.out, R2.out]; rfl, B3.out⟩
      · have hr1 : r = 0 := by omega
        rw [if_neg hrp, Int.add_zero] at hpg
        rw [hpg] at HD HD2 HN
        by_cases hz : m = 0
        · have R1 := Lib.hid (HD2.out (by omega))
          have R2 := Lib.hid (HN.out R1.out)
          have R3 : Hid (rn = 0) := Lib.hid (by rw [R2.out, hz, upto_none (by omega)]; exact HNil.out)
          clear hpg HT HD HD2 HN HN2 HFl R2
          go_enter Try.func26, Try.ntmps26
          go_wp2_with fail
          refine (HS.out _).mono ?_
          rintro e w' ⟨rfl, rfl⟩
          go_wp2
          go_ret2
          exact ⟨by rw [R1.out, R3.out]; rfl, Below.refl _ _⟩
        · have HQ := Lib.hid (HT.out (m - 1))
          clear HT hpg
          by_cases hb : 1062 < m
          · have hE : toE 64 (m - 1) = 52 := toE_index (by decide) (.inr (by rw [hpgs]; omega))
            rw [hE] at HQ
            have R1 := Lib.hid (HD.out hb)
            have R2 := Lib.hid (HN2.out (by rw [R1.out]; decide))
            generalize tl 64 (m - 1) = a1 at HQ
            generalize tf 64 (m - 1) = a2 at HQ
            generalize tc 64 (m - 1) = a3 at HQ
            clear hE HD HD2 HN HN2
            go_enter Try.func26, Try.ntmps26
            go_wp2_with fail
            refine (HS.out _).mono ?_
            rintro e w' ⟨rfl, rfl⟩
            go_wp2_with fail
            refine (HQ.out _).mono ?_
            rintro e w1 ⟨rfl, hb1⟩
            have B1 := Lib.hid hb1
            clear hb1
            go_wp2
            go_ret2
            exact ⟨by rw [R1.out, R2.out]; rfl, B1.out.alloc B1.out.size _⟩
          · have hE : toE 64 (m - 1) = 0 := toE_iff.2 ⟨by decide, by omega, by rw [hpgs]; omega⟩
            rw [hE] at HQ
            have R1 := Lib.hid (HD2.out hb)
            have R2 := Lib.hid (HN.out R1.out)
            have R3 := Lib.hid (HFl.out m (by omega))
            have hpm : m ≤ 1062 := by omega
            generalize tl 64 (m - 1) = a1 at HQ
            generalize tf 64 (m - 1) = a2 at HQ
            generalize tc 64 (m - 1) = a3 at HQ
            have HW := Lib.hid (fun W => with_any [] none 0 0 0 m W Ri.nil rfl (by omega) (by unfold I64; omega) (by unfold I64; omega))
            rw [srt_upto (m := m) (by omega)] at HW
            have HF := Lib.hid (fun W A cc (hr : Ri W A (upto 0 m)) => file_any 64 (upto 0 m) A cc (upto 0 m).length W hr rfl (by rw [upto_length]; omega))
            rw [R3.out] at HF
            generalize fN 64 (upto 0 m) = q at HF R2
            generalize upto 0 m = u at HW HF
            clear hE HD HD2 HN HN2 HFl R3
            go_enter Try.func26, Try.ntmps26
            go_wp2_with fail
            refine (HS.out _).mono ?_
            rintro e w' ⟨rfl, rfl⟩
            go_wp2_with fail
            refine (HQ.out _).mono ?_
            rintro e w1 ⟨rfl, hb1⟩
            have B1 : Hid (Below w.heap.size w (w1.alloc (.cells #[.int .i64 a1, .int .i64 a2, .int .i64 a3] 59))) := Lib.hid (hb1.alloc hb1.size _)
            clear hb1
            go_wp2_with fail
            refine (HW.out _).mono ?_
            rintro e w2 ⟨A, cc, rfl, -, hri, hb2⟩
            have B2 := Lib.hid (B1.out.trans (hb2.mono B1.out.size))
            have HRi := Lib.hid hri
            clear hb2 hri HW
            go_wp2_with fail
            refine (HF.out _ _ _ HRi.out).mono ?_
            rintro e w3 ⟨rfl, hb3⟩
            have B3 := Lib.hid (B2.out.trans (hb3.mono B2.out.size))
            clear hb3
            go_wp2
            go_ret2
            exact ⟨by rw [R1.out, R2.out]; rfl, B3.out⟩
    · have hpgs : pgs 128 = 4166 := by decide
      have hpg : dpg 128 k = k / 8 + if 0 < k % 8 then 1 else 0 := rfl
      rw [hpgs] at HD HD2 HFl
      generalize hm : k / 8 = m at hpg
      generalize hr : k % 8 = r at hpg
      have hm0 : 0 ≤ m := by omega
      have hmk : m ≤ k := by omega
      have hr0 : 0 ≤ r := by omega
      by_cases hrp : 0 < r
      · rw [if_pos hrp] at hpg
        rw [hpg] at HD HD2 HN
        have HQ := Lib.hid (HT.out m)
        clear HT hpg
        by_cases hb : 4166 < m + 1
        · have hE : toE 128 m = 52 := toE_index (by decide) (.inr (by rw [hpgs]; omega))
          rw [hE] at HQ
          have R1 := Lib.hid (HD.out hb)
          have R2 := Lib.hid (HN2.out (by rw [R1.out]; decide))
          generalize tl 128 m = a1 at HQ
          generalize tf 128 m = a2 at HQ
          generalize tc 128 m = a3 at HQ
          clear hE HD HD2 HN HN2
          go_enter Try.func26, Try.ntmps26
          go_wp2_with fail
          refine (HS.out _).mono ?_
          rintro e w' ⟨rfl, rfl⟩
          go_wp2_with fail
          refine (HQ.out _).mono ?_
          rintro e w1 ⟨rfl, hb1⟩
          have B1 := Lib.hid hb1
          clear hb1
          go_wp2
          go_ret2
          exact ⟨by rw [R1.out, R2.out]; rfl, B1.out.alloc B1.out.size _⟩
        · have hE : toE 128 m = 0 := toE_iff.2 ⟨by decide, hm0, by rw [hpgs]; omega⟩
          rw [hE] at HQ
          have R1 := Lib.hid (HD2.out hb)
          have R2 := Lib.hid (HN.out R1.out)
          have R3 := Lib.hid (HFl.out (m + 1) (by omega))
          have hpm : m + 1 ≤ 4166 := by omega
          generalize tl 128 m = a1 at HQ
          generalize tf 128 m = a2 at HQ
          generalize tc 128 m = a3 at HQ
          have HW := Lib.hid (fun W => with_any [] none 0 0 0 (m + 1) W Ri.nil rfl (by omega) (by unfold I64; omega) (by unfold I64; omega))
          rw [srt_upto (m := m + 1) (by omega)] at HW
          have HF := Lib.hid (fun W A cc (hr : Ri W A (upto 0 (m + 1))) => file_any 128 (upto 0 (m + 1)) A cc (upto 0 (m + 1)).length W hr rfl (by rw [upto_length]; omega))
          rw [R3.out] at HF
          generalize fN 128 (upto 0 (m + 1)) = q at HF R2
          generalize upto 0 (m + 1) = u at HW HF
          clear hE HD HD2 HN HN2 HFl R3
          go_enter Try.func26, Try.ntmps26
          go_wp2_with fail
          refine (HS.out _).mono ?_
          rintro e w' ⟨rfl, rfl⟩
          go_wp2_with fail
          refine (HQ.out _).mono ?_
          rintro e w1 ⟨rfl, hb1⟩
          have B1 : Hid (Below w.heap.size w (w1.alloc (.cells #[.int .i64 a1, .int .i64 a2, .int .i64 a3] 59))) := Lib.hid (hb1.alloc hb1.size _)
          clear hb1
          go_wp2_with fail
          refine (HW.out _).mono ?_
          rintro e w2 ⟨A, cc, rfl, -, hri, hb2⟩
          have B2 := Lib.hid (B1.out.trans (hb2.mono B1.out.size))
          have HRi := Lib.hid hri
          clear hb2 hri HW
          go_wp2_with fail
          refine (HF.out _ _ _ HRi.out).mono ?_
          rintro e w3 ⟨rfl, hb3⟩
          have B3 := Lib.hid (B2.out.trans (hb3.mono B2.out.size))
          clear hb3
          go_wp2
          go_ret2
          exact ⟨by rw [R1.out, R2.out]; rfl, B3.out⟩
      · have hr1 : r = 0 := by omega
        rw [if_neg hrp, Int.add_zero] at hpg
        rw [hpg] at HD HD2 HN
        by_cases hz : m = 0
        · have R1 := Lib.hid (HD2.out (by omega))
          have R2 := Lib.hid (HN.out R1.out)
          have R3 : Hid (rn = 0) := Lib.hid (by rw [R2.out, hz, upto_none (by omega)]; exact HNil.out)
          clear hpg HT HD HD2 HN HN2 HFl R2
          go_enter Try.func26, Try.ntmps26
          go_wp2_with fail
          refine (HS.out _).mono ?_
          rintro e w' ⟨rfl, rfl⟩
          go_wp2
          go_ret2
          exact ⟨by rw [R1.out, R3.out]; rfl, Below.refl _ _⟩
        · have HQ := Lib.hid (HT.out (m - 1))
          clear HT hpg
          by_cases hb : 4166 < m
          · have hE : toE 128 (m - 1) = 52 := toE_index (by decide) (.inr (by rw [hpgs]; omega))
            rw [hE] at HQ
            have R1 := Lib.hid (HD.out hb)
            have R2 := Lib.hid (HN2.out (by rw [R1.out]; decide))
            generalize tl 128 (m - 1) = a1 at HQ
            generalize tf 128 (m - 1) = a2 at HQ
            generalize tc 128 (m - 1) = a3 at HQ
            clear hE HD HD2 HN HN2
            go_enter Try.func26, Try.ntmps26
            go_wp2_with fail
            refine (HS.out _).mono ?_
            rintro e w' ⟨rfl, rfl⟩
            go_wp2_with fail
            refine (HQ.out _).mono ?_
            rintro e w1 ⟨rfl, hb1⟩
            have B1 := Lib.hid hb1
            clear hb1
            go_wp2
            go_ret2
            exact ⟨by rw [R1.out, R2.out]; rfl, B1.out.alloc B1.out.size _⟩
          · have hE : toE 128 (m - 1) = 0 := toE_iff.2 ⟨by decide, by omega, by rw [hpgs]; omega⟩
            rw [hE] at HQ
            have R1 := Lib.hid (HD2.out hb)
            have R2 := Lib.hid (HN.out R1.out)
            have R3 := Lib.hid (HFl.out m (by omega))
            have hpm : m ≤ 4166 := by omega
            generalize tl 128 (m - 1) = a1 at HQ
            generalize tf 128 (m - 1) = a2 at HQ
            generalize tc 128 (m - 1) = a3 at HQ
            have HW := Lib.hid (fun W => with_any [] none 0 0 0 m W Ri.nil rfl (by omega) (by unfold I64; omega) (by unfold I64; omega))
            rw [srt_upto (m := m) (by omega)] at HW
            have HF := Lib.hid (fun W A cc (hr : Ri W A (upto 0 m)) => file_any 128 (upto 0 m) A cc (upto 0 m).length W hr rfl (by rw [upto_length]; omega))
            rw [R3.out] at HF
            generalize fN 128 (upto 0 m) = q at HF R2
            generalize upto 0 m = u at HW HF
            clear hE HD HD2 HN HN2 HFl R3
            go_enter Try.func26, Try.ntmps26
            go_wp2_with fail
            refine (HS.out _).mono ?_
            rintro e w' ⟨rfl, rfl⟩
            go_wp2_with fail
            refine (HQ.out _).mono ?_
            rintro e w1 ⟨rfl, hb1⟩
            have B1 : Hid (Below w.heap.size w (w1.alloc (.cells #[.int .i64 a1, .int .i64 a2, .int .i64 a3] 59))) := Lib.hid (hb1.alloc hb1.size _)
            clear hb1
            go_wp2_with fail
            refine (HW.out _).mono ?_
            rintro e w2 ⟨A, cc, rfl, -, hri, hb2⟩
            have B2 := Lib.hid (B1.out.trans (hb2.mono B1.out.size))
            have HRi := Lib.hid hri
            clear hb2 hri HW
            go_wp2_with fail
            refine (HF.out _ _ _ HRi.out).mono ?_
            rintro e w3 ⟨rfl, hb3⟩
            have B3 := Lib.hid (B2.out.trans (hb3.mono B2.out.size))
            clear hb3
            go_wp2
            go_ret2
            exact ⟨by rw [R1.out, R2.out]; rfl, B3.out⟩
    · have hpgs : pgs 256 = 16518 := by decide
      have hpg : dpg 256 k = k / 16 + if 0 < k % 16 then 1 else 0 := rfl
      rw [hpgs] at HD HD2 HFl
      generalize hm : k / 16 = m at hpg
      generalize hr : k % 16 = r at hpg
      have hm0 : 0 ≤ m := by omega
      have hmk : m ≤ k := by omega
      have hr0 : 0 ≤ r := by omega
      by_cases hrp : 0 < r
      · rw [if_pos hrp] at hpg
        rw [hpg] at HD HD2 HN
        have HQ := Lib.hid (HT.out m)
        clear HT hpg
        by_cases hb : 16518 < m + 1
        · have hE : toE 256 m = 52 := toE_index (by decide) (.inr (by rw [hpgs]; omega))
          rw [hE] at HQ
          have R1 := Lib.hid (HD.out hb)
          have R2 := Lib.hid (HN2.out (by rw [R1.out]; decide))
          generalize tl 256 m = a1 at HQ
          generalize tf 256 m = a2 at HQ
          generalize tc 256 m = a3 at HQ
          clear hE HD HD2 HN HN2
          go_enter Try.func26, Try.ntmps26
          go_wp2_with fail
          refine (HS.out _).mono ?_
          rintro e w' ⟨rfl, rfl⟩
          go_wp2_with fail
          refine (HQ.out _).mono ?_
          rintro e w1 ⟨rfl, hb1⟩
          have B1 := Lib.hid hb1
          clear hb1
          go_wp2
          go_ret2
          exact ⟨by rw [R1.out, R2.out]; rfl, B1.out.alloc B1.out.size _⟩
        · have hE : toE 256 m = 0 := toE_iff.2 ⟨by decide, hm0, by rw [hpgs]; omega⟩
          rw [hE] at HQ
          have R1 := Lib.hid (HD2.out hb)
          have R2 := Lib.hid (HN.out R1.out)
          have R3 := Lib.hid (HFl.out (m + 1) (by omega))
          have hpm : m + 1 ≤ 16518 := by omega
          generalize tl 256 m = a1 at HQ
          generalize tf 256 m = a2 at HQ
          generalize tc 256 m = a3 at HQ
          have HW := Lib.hid (fun W => with_any [] none 0 0 0 (m + 1) W Ri.nil rfl (by omega) (by unfold I64; omega) (by unfold I64; omega))
          rw [srt_upto (m := m + 1) (by omega)] at HW
          have HF := Lib.hid (fun W A cc (hr : Ri W A (upto 0 (m + 1))) => file_any 256 (upto 0 (m + 1)) A cc (upto 0 (m + 1)).length W hr rfl (by rw [upto_length]; omega))
          rw [R3.out] at HF
          generalize fN 256 (upto 0 (m + 1)) = q at HF R2
          generalize upto 0 (m + 1) = u at HW HF
          clear hE HD HD2 HN HN2 HFl R3
          go_enter Try.func26, Try.ntmps26
          go_wp2_with fail
          refine (HS.out _).mono ?_
          rintro e w' ⟨rfl, rfl⟩
          go_wp2_with fail
          refine (HQ.out _).mono ?_
          rintro e w1 ⟨rfl, hb1⟩
          have B1 : Hid (Below w.heap.size w (w1.alloc (.cells #[.int .i64 a1, .int .i64 a2, .int .i64 a3] 59))) := Lib.hid (hb1.alloc hb1.size _)
          clear hb1
          go_wp2_with fail
          refine (HW.out _).mono ?_
          rintro e w2 ⟨A, cc, rfl, -, hri, hb2⟩
          have B2 := Lib.hid (B1.out.trans (hb2.mono B1.out.size))
          have HRi := Lib.hid hri
          clear hb2 hri HW
          go_wp2_with fail
          refine (HF.out _ _ _ HRi.out).mono ?_
          rintro e w3 ⟨rfl, hb3⟩
          have B3 := Lib.hid (B2.out.trans (hb3.mono B2.out.size))
          clear hb3
          go_wp2
          go_ret2
          exact ⟨by rw [R1.out, R2.out]; rfl, B3.out⟩
      · have hr1 : r = 0 := by omega
        rw [if_neg hrp, Int.add_zero] at hpg
        rw [hpg] at HD HD2 HN
        by_cases hz : m = 0
        · have R1 := Lib.hid (HD2.out (by omega))
          have R2 := Lib.hid (HN.out R1.out)
          have R3 : Hid (rn = 0) := Lib.hid (by rw [R2.out, hz, upto_none (by omega)]; exact HNil.out)
          clear hpg HT HD HD2 HN HN2 HFl R2
          go_enter Try.func26, Try.ntmps26
          go_wp2_with fail
          refine (HS.out _).mono ?_
          rintro e w' ⟨rfl, rfl⟩
          go_wp2
          go_ret2
          exact ⟨by rw [R1.out, R3.out]; rfl, Below.refl _ _⟩
        · have HQ := Lib.hid (HT.out (m - 1))
          clear HT hpg
          by_cases hb : 16518 < m
          · have hE : toE 256 (m - 1) = 52 := toE_index (by decide) (.inr (by rw [hpgs]; omega))
            rw [hE] at HQ
            have R1 := Lib.hid (HD.out hb)
            have R2 := Lib.hid (HN2.out (by rw [R1.out]; decide))
            generalize tl 256 (m - 1) = a1 at HQ
            generalize tf 256 (m - 1) = a2 at HQ
            generalize tc 256 (m - 1) = a3 at HQ
            clear hE HD HD2 HN HN2
            go_enter Try.func26, Try.ntmps26
            go_wp2_with fail
            refine (HS.out _).mono ?_
            rintro e w' ⟨rfl, rfl⟩
            go_wp2_with fail
            refine (HQ.out _).mono ?_
            rintro e w1 ⟨rfl, hb1⟩
            have B1 := Lib.hid hb1
            clear hb1
            go_wp2
            go_ret2
            exact ⟨by rw [R1.out, R2.out]; rfl, B1.out.alloc B1.out.size _⟩
          · have hE : toE 256 (m - 1) = 0 := toE_iff.2 ⟨by decide, by omega, by rw [hpgs]; omega⟩
            rw [hE] at HQ
            have R1 := Lib.hid (HD2.out hb)
            have R2 := Lib.hid (HN.out R1.out)
            have R3 := Lib.hid (HFl.out m (by omega))
            have hpm : m ≤ 16518 := by omega
            generalize tl 256 (m - 1) = a1 at HQ
            generalize tf 256 (m - 1) = a2 at HQ
            generalize tc 256 (m - 1) = a3 at HQ
            have HW := Lib.hid (fun W => with_any [] none 0 0 0 m W Ri.nil rfl (by omega) (by unfold I64; omega) (by unfold I64; omega))
            rw [srt_upto (m := m) (by omega)] at HW
            have HF := Lib.hid (fun W A cc (hr : Ri W A (upto 0 m)) => file_any 256 (upto 0 m) A cc (upto 0 m).length W hr rfl (by rw [upto_length]; omega))
            rw [R3.out] at HF
            generalize fN 256 (upto 0 m) = q at HF R2
            generalize upto 0 m = u at HW HF
            clear hE HD HD2 HN HN2 HFl R3
            go_enter Try.func26, Try.ntmps26
            go_wp2_with fail
            refine (HS.out _).mono ?_
            rintro e w' ⟨rfl, rfl⟩
            go_wp2_with fail
            refine (HQ.out _).mono ?_
            rintro e w1 ⟨rfl, hb1⟩
            have B1 : Hid (Below w.heap.size w (w1.alloc (.cells #[.int .i64 a1, .int .i64 a2, .int .i64 a3] 59))) := Lib.hid (hb1.alloc hb1.size _)
            clear hb1
            go_wp2_with fail
            refine (HW.out _).mono ?_
            rintro e w2 ⟨A, cc, rfl, -, hri, hb2⟩
            have B2 := Lib.hid (B1.out.trans (hb2.mono B1.out.size))
            have HRi := Lib.hid hri
            clear hb2 hri HW
            go_wp2_with fail
            refine (HF.out _ _ _ HRi.out).mono ?_
            rintro e w3 ⟨rfl, hb3⟩
            have B3 := Lib.hid (B2.out.trans (hb3.mono B2.out.size))
            clear hb3
            go_wp2
            go_ret2
            exact ⟨by rw [R1.out, R2.out]; rfl, B3.out⟩
    · have hpgs : pgs 512 = 65798 := by decide
      have hpg : dpg 512 k = k / 32 + if 0 < k % 32 then 1 else 0 := rfl
      rw [hpgs] at HD HD2 HFl
      generalize hm : k / 32 = m at hpg
      generalize hr : k % 32 = r at hpg
      have hm0 : 0 ≤ m := by omega
      have hmk : m ≤ k := by omega
      have hr0 : 0 ≤ r := by omega
      by_cases hrp : 0 < r
      · rw [if_pos hrp] at hpg
        rw [hpg] at HD HD2 HN
        have HQ := Lib.hid (HT.out m)
        clear HT hpg
        by_cases hb : 65798 < m + 1
        · have hE : toE 512 m = 52 := toE_index (by decide) (.inr (by rw [hpgs]; omega))
          rw [hE] at HQ
          have R1 := Lib.hid (HD.out hb)
          have R2 := Lib.hid (HN2.out (by rw [R1.out]; decide))
          generalize tl 512 m = a1 at HQ
          generalize tf 512 m = a2 at HQ
          generalize tc 512 m = a3 at HQ
          clear hE HD HD2 HN HN2
          go_enter Try.func26, Try.ntmps26
          go_wp2_with fail
          refine (HS.out _).mono ?_
          rintro e w' ⟨rfl, rfl⟩
          go_wp2_with fail
          refine (HQ.out _).mono ?_
          rintro e w1 ⟨rfl, hb1⟩
          have B1 := Lib.hid hb1
          clear hb1
          go_wp2
          go_ret2
          exact ⟨by rw [R1.out, R2.out]; rfl, B1.out.alloc B1.out.size _⟩
        · have hE : toE 512 m = 0 := toE_iff.2 ⟨by decide, hm0, by rw [hpgs]; omega⟩
          rw [hE] at HQ
          have R1 := Lib.hid (HD2.out hb)
          have R2 := Lib.hid (HN.out R1.out)
          have R3 := Lib.hid (HFl.out (m + 1) (by omega))
          have hpm : m + 1 ≤ 65798 := by omega
          generalize tl 512 m = a1 at HQ
          generalize tf 512 m = a2 at HQ
          generalize tc 512 m = a3 at HQ
          have HW := Lib.hid (fun W => with_any [] none 0 0 0 (m + 1) W Ri.nil rfl (by omega) (by unfold I64; omega) (by unfold I64; omega))
          rw [srt_upto (m := m + 1) (by omega)] at HW
          have HF := Lib.hid (fun W A cc (hr : Ri W A (upto 0 (m + 1))) => file_any 512 (upto 0 (m + 1)) A cc (upto 0 (m + 1)).length W hr rfl (by rw [upto_length]; omega))
          rw [R3.out] at HF
          generalize fN 512 (upto 0 (m + 1)) = q at HF R2
          generalize upto 0 (m + 1) = u at HW HF
          clear hE HD HD2 HN HN2 HFl R3
          go_enter Try.func26, Try.ntmps26
          go_wp2_with fail
          refine (HS.out _).mono ?_
          rintro e w' ⟨rfl, rfl⟩
          go_wp2_with fail
          refine (HQ.out _).mono ?_
          rintro e w1 ⟨rfl, hb1⟩
          have B1 : Hid (Below w.heap.size w (w1.alloc (.cells #[.int .i64 a1, .int .i64 a2, .int .i64 a3] 59))) := Lib.hid (hb1.alloc hb1.size _)
          clear hb1
          go_wp2_with fail
          refine (HW.out _).mono ?_
          rintro e w2 ⟨A, cc, rfl, -, hri, hb2⟩
          have B2 := Lib.hid (B1.out.trans (hb2.mono B1.out.size))
          have HRi := Lib.hid hri
          clear hb2 hri HW
          go_wp2_with fail
          refine (HF.out _ _ _ HRi.out).mono ?_
          rintro e w3 ⟨rfl, hb3⟩
          have B3 := Lib.hid (B2.out.trans (hb3.mono B2.out.size))
          clear hb3
          go_wp2
          go_ret2
          exact ⟨by rw [R1.out, R2.out]; rfl, B3.out⟩
      · have hr1 : r = 0 := by omega
        rw [if_neg hrp, Int.add_zero] at hpg
        rw [hpg] at HD HD2 HN
        by_cases hz : m = 0
        · have R1 := Lib.hid (HD2.out (by omega))
          have R2 := Lib.hid (HN.out R1.out)
          have R3 : Hid (rn = 0) := Lib.hid (by rw [R2.out, hz, upto_none (by omega)]; exact HNil.out)
          clear hpg HT HD HD2 HN HN2 HFl R2
          go_enter Try.func26, Try.ntmps26
          go_wp2_with fail
          refine (HS.out _).mono ?_
          rintro e w' ⟨rfl, rfl⟩
          go_wp2
          go_ret2
          exact ⟨by rw [R1.out, R3.out]; rfl, Below.refl _ _⟩
        · have HQ := Lib.hid (HT.out (m - 1))
          clear HT hpg
          by_cases hb : 65798 < m
          · have hE : toE 512 (m - 1) = 52 := toE_index (by decide) (.inr (by rw [hpgs]; omega))
            rw [hE] at HQ
            have R1 := Lib.hid (HD.out hb)
            have R2 := Lib.hid (HN2.out (by rw [R1.out]; decide))
            generalize tl 512 (m - 1) = a1 at HQ
            generalize tf 512 (m - 1) = a2 at HQ
            generalize tc 512 (m - 1) = a3 at HQ
            clear hE HD HD2 HN HN2
            go_enter Try.func26, Try.ntmps26
            go_wp2_with fail
            refine (HS.out _).mono ?_
            rintro e w' ⟨rfl, rfl⟩
            go_wp2_with fail
            refine (HQ.out _).mono ?_
            rintro e w1 ⟨rfl, hb1⟩
            have B1 := Lib.hid hb1
            clear hb1
            go_wp2
            go_ret2
            exact ⟨by rw [R1.out, R2.out]; rfl, B1.out.alloc B1.out.size _⟩
          · have hE : toE 512 (m - 1) = 0 := toE_iff.2 ⟨by decide, by omega, by rw [hpgs]; omega⟩
            rw [hE] at HQ
            have R1 := Lib.hid (HD2.out hb)
            have R2 := Lib.hid (HN.out R1.out)
            have R3 := Lib.hid (HFl.out m (by omega))
            have hpm : m ≤ 65798 := by omega
            generalize tl 512 (m - 1) = a1 at HQ
            generalize tf 512 (m - 1) = a2 at HQ
            generalize tc 512 (m - 1) = a3 at HQ
            have HW := Lib.hid (fun W => with_any [] none 0 0 0 m W Ri.nil rfl (by omega) (by unfold I64; omega) (by unfold I64; omega))
            rw [srt_upto (m := m) (by omega)] at HW
            have HF := Lib.hid (fun W A cc (hr : Ri W A (upto 0 m)) => file_any 512 (upto 0 m) A cc (upto 0 m).length W hr rfl (by rw [upto_length]; omega))
            rw [R3.out] at HF
            generalize fN 512 (upto 0 m) = q at HF R2
            generalize upto 0 m = u at HW HF
            clear hE HD HD2 HN HN2 HFl R3
            go_enter Try.func26, Try.ntmps26
            go_wp2_with fail
            refine (HS.out _).mono ?_
            rintro e w' ⟨rfl, rfl⟩
            go_wp2_with fail
            refine (HQ.out _).mono ?_
            rintro e w1 ⟨rfl, hb1⟩
            have B1 : Hid (Below w.heap.size w (w1.alloc (.cells #[.int .i64 a1, .int .i64 a2, .int .i64 a3] 59))) := Lib.hid (hb1.alloc hb1.size _)
            clear hb1
            go_wp2_with fail
            refine (HW.out _).mono ?_
            rintro e w2 ⟨A, cc, rfl, -, hri, hb2⟩
            have B2 := Lib.hid (B1.out.trans (hb2.mono B1.out.size))
            have HRi := Lib.hid hri
            clear hb2 hri HW
            go_wp2_with fail
            refine (HF.out _ _ _ HRi.out).mono ?_
            rintro e w3 ⟨rfl, hb3⟩
            have B3 := Lib.hid (B2.out.trans (hb3.mono B2.out.size))
            clear hb3
            go_wp2
            go_ret2
            exact ⟨by rw [R1.out, R2.out]; rfl, B3.out⟩
  · rw [dN_no (by rw [dE_no h]; decide), dE_no h]
    by_cases hs : Sz s
    · have hk : k < 0 := by
        by_cases g : 0 ≤ k
        · exact absurd ⟨hs, g⟩ h
        · omega
      have HS := Lib.hid (fun w => rsized_any s w)
      rw [decide_eq_true hs] at HS
      clear h hs
      go_enter Try.func26, Try.ntmps26
      go_wp2_with fail
      refine (HS.out _).mono ?_
      rintro e w' ⟨rfl, rfl⟩
      go_wp2
      go_ret2
      exact ⟨rfl, Below.refl _ _⟩
    · have HS := Lib.hid (fun w => rsized_any s w)
      rw [decide_eq_false hs] at HS
      clear h hs
      go_enter Try.func26, Try.ntmps26
      go_wp2_with fail
      refine (HS.out _).mono ?_
      rintro e w' ⟨rfl, rfl⟩
      go_wp2
      go_ret2
      exact ⟨rfl, Below.refl _ _⟩

end Go.Proofs.Ytladgfonkolpmaa
