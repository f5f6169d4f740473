/-
  How many pages a directory takes, and how many more a file takes: the program's answers and the document's. Nothing of one statement alone stands here.
-/
import Derived.Test.YtladgfonkolpmaaRoomMore
namespace Go.Proofs.Ytladgfonkolpmaa
open Go.RowKit Crcm Tagm Inom Roomm Go.ChangeShapes

set_option maxRecDepth 100000 in
set_option maxHeartbeats 8000000 in
theorem refdir_any (s k : Int) (w : World) (hk1 : k ≤ 9223372036854775807) : Calls Try.prog 27 #[.int .i64 s, .int .i64 k] w fun e w' => e = .returned (.tuple #[.int .i64 (dN s k), .int .i64 (dE s k)]) ∧ Below w.heap.size w w' := by
  by_cases h : Sz s ∧ 0 ≤ k
  · obtain ⟨hs, hk0⟩ := h
    have HS := Lib.hid (fun w => irefsized_yes s w hs)
    have HD := Lib.hid (fun g => dE_bad (s := s) (k := k) ⟨hs, hk0⟩ g)
    have HD2 := Lib.hid (fun g => dE_ok (s := s) (k := k) ⟨hs, hk0⟩ g)
    have HN := Lib.hid (fun g => dN_ok (s := s) (k := k) g)
    have HN2 := Lib.hid (fun g => dN_no (s := s) (k := k) g)
    have hnil := fN_nil hs
    have HNil := Lib.hid hnil
    clear hnil
    generalize dN s k = rn at HN HN2 ⊢
    generalize dE s k = re at HD HD2 HN HN2 ⊢
    have HFl := Lib.hid (fun m (h : m ≤ pgs s) => fE_upto hs h)
    rcases hs with rfl | rfl | rfl | rfl
    · have hpgs : pgs 64 = 1062 := by decide
      have hpg : dpg 64 k = k / 4 + if 0 < k % 4 then 1 else 0 := rfl
      rw [hpgs] at HD HD2 HFl
      have HM : Hid (∀ w, Calls Try.prog 52 #[.int .i64 64] w fun e w' => e = .returned (.int .i64 67968) ∧ w = w') := Lib.hid (fun w => refmost_any 64 w)
      by_cases hb : 4248 < k
      · have R1 := Lib.hid (HD.out (by rw [hpg]; split <;> omega))
        have R2 := Lib.hid (HN2.out (by rw [R1.out]; decide))
        clear hpg HD HD2 HN HN2
        go_enter Try.func27, Try.ntmps27
        go_wp2_with fail
        refine (HS.out _).mono ?_
        rintro e w' ⟨rfl, rfl⟩
        go_wp2_with fail
        refine (HM.out _).mono ?_
        rintro e w' ⟨rfl, rfl⟩
        go_wp2
        go_ret2
        exact ⟨by rw [R1.out, R2.out]; rfl, Below.refl _ _⟩
      · have hb1 : dpg 64 k ≤ 1062 := by rw [hpg]; split <;> omega
        have R1 := Lib.hid (HD2.out (by omega))
        have R2 := Lib.hid (HN.out R1.out)
        generalize hm : k * 16 / 64 = m
        generalize hr : k * 16 % 64 = r
        have hm0 : 0 ≤ m := by omega
        have hr0 : 0 ≤ r := by omega
        have hmP : m ≤ 1062 := by omega
        by_cases hrp : 0 < r
        · have hp1 : dpg 64 k = m + 1 := by rw [hpg]; split <;> omega
          rw [hp1] at R2 hb1
          have R3 := Lib.hid (HFl.out (m + 1) hb1)
          have HU := Lib.hid (fun W => upto_any (m + 1) W (by omega) (by omega))
          have HF := Lib.hid (fun W A cc (hr : Ri W A (upto 0 (m + 1))) => reffile_any 64 (upto 0 (m + 1)) A cc (upto 0 (m + 1)).length W hr rfl (by rw [upto_length]; omega))
          rw [R3.out] at HF
          generalize fN 64 (upto 0 (m + 1)) = q at HF R2
          generalize upto 0 (m + 1) = u at HU HF
          clear hpg hp1 HD HD2 HN HN2 HFl R3 hb1
          go_enter Try.func27, Try.ntmps27
          go_wp2_with fail
          refine (HS.out _).mono ?_
          rintro e w' ⟨rfl, rfl⟩
          go_wp2_with fail
          refine (HM.out _).mono ?_
          rintro e w' ⟨rfl, rfl⟩
          go_wp2_with fail
          refine (HU.out _).mono ?_
          rintro e w2 ⟨A, cc, rfl, -, hri, hb2⟩
          have B2 := Lib.hid hb2
          have HRi := Lib.hid hri
          clear hb2 hri HU
          go_wp2_with fail
          refine (HF.out _ _ _ HRi.out).mono ?_
          rintro e w3 ⟨rfl, hb3⟩
          have B3 := Lib.hid (B2.out.trans (hb3.mono B2.out.size))
          clear hb3
          go_wp2
          go_ret2
          exact ⟨by rw [R1.out, R2.out]; rfl, B3.out⟩
        · have hr1 : r = 0 := by omega
          have hp1 : dpg 64 k = m := by rw [hpg]; split <;> omega
          rw [hp1] at R2 hb1
          have R3 := Lib.hid (HFl.out m hb1)
          have HU := Lib.hid (fun W => upto_any m W (by omega) (by omega))
          have HF := Lib.hid (fun W A cc (hr : Ri W A (upto 0 m)) => reffile_any 64 (upto 0 m) A cc (upto 0 m).length W hr rfl (by rw [upto_length]; omega))
          rw [R3.out] at HF
          generalize fN 64 (upto 0 m) = q at HF R2
          generalize upto 0 m = u at HU HF
          clear hpg hp1 HD HD2 HN HN2 HFl R3 hb1
          go_enter Try.func27, Try.ntmps27
          go_wp2_with fail
          refine (HS.out _).mono ?_
          rintro e w' ⟨rfl, rfl⟩
          go_wp2_with fail
          refine (HM.out _).mono ?_
          rintro e w' ⟨rfl, rfl⟩
          go_wp2_with fail
          refine (HU.out _).mono ?_
          rintro e w2 ⟨A, cc, rfl, -, hri, hb2⟩
          have B2 := Lib.hid hb2
          have HRi := Lib.hid hri
          clear hb2 hri HU
          go_wp2_with fail
          refine (HF.out _ _ _ HRi.out).mono ?_
          rintro e w3 ⟨rfl, hb3⟩
          have B3 := Lib.hid (B2.out.trans (hb3.mono B2.out.size))
          clear hb3
          go_wp2
          go_ret2
          exact ⟨by rw [R1.out, R2.out]; rfl, B3.out⟩
    · have hpgs : pgs 128 = 4166 := by decide
      have hpg : dpg 128 k = k / 8 + if 0 < k % 8 then 1 else 0 := rfl
      rw [hpgs] at HD HD2 HFl
      have HM : Hid (∀ w, Calls Try.prog 52 #[.int .i64 128] w fun e w' => e = .returned (.int .i64 533248) ∧ w = w') := Lib.hid (fun w => refmost_any 128 w)
      by_cases hb : 33328 < k
      · have R1 := Lib.hid (HD.out (by rw [hpg]; split <;> omega))
        have R2 := Lib.hid (HN2.out (by rw [R1.out]; decide))
        clear hpg HD HD2 HN HN2
        go_enter Try.func27, Try.ntmps27
        go_wp2_with fail
        refine (HS.out _).mono ?_
        rintro e w' ⟨rfl, rfl⟩
        go_wp2_with fail
        refine (HM.out _).mono ?_
        rintro e w' ⟨rfl, rfl⟩
        go_wp2
        go_ret2
        exact ⟨by rw [R1.out, R2.out]; rfl, Below.refl _ _⟩
      · have hb1 : dpg 128 k ≤ 4166 := by rw [hpg]; split <;> omega
        have R1 := Lib.hid (HD2.out (by omega))
        have R2 := Lib.hid (HN.out R1.out)
        generalize hm : k * 16 / 128 = m
        generalize hr : k * 16 % 128 = r
        have hm0 : 0 ≤ m := by omega
        have hr0 : 0 ≤ r := by omega
        have hmP : m ≤ 4166 := by omega
        by_cases hrp : 0 < r
        · have hp1 : dpg 128 k = m + 1 := by rw [hpg]; split <;> omega
          rw [hp1] at R2 hb1
          have R3 := Lib.hid (HFl.out (m + 1) hb1)
          have HU := Lib.hid (fun W => upto_any (m + 1) W (by omega) (by omega))
          have HF := Lib.hid (fun W A cc (hr : Ri W A (upto 0 (m + 1))) => reffile_any 128 (upto 0 (m + 1)) A cc (upto 0 (m + 1)).length W hr rfl (by rw [upto_length]; omega))
          rw [R3.out] at HF
          generalize fN 128 (upto 0 (m + 1)) = q at HF R2
          generalize upto 0 (m + 1) = u at HU HF
          clear hpg hp1 HD HD2 HN HN2 HFl R3 hb1
          go_enter Try.func27, Try.ntmps27
          go_wp2_with fail
          refine (HS.out _).mono ?_
          rintro e w' ⟨rfl, rfl⟩
          go_wp2_with fail
          refine (HM.out _).mono ?_
          rintro e w' ⟨rfl, rfl⟩
          go_wp2_with fail
          refine (HU.out _).mono ?_
          rintro e w2 ⟨A, cc, rfl, -, hri, hb2⟩
          have B2 := Lib.hid hb2
          have HRi := Lib.hid hri
          clear hb2 hri HU
          go_wp2_with fail
          refine (HF.out _ _ _ HRi.out).mono ?_
          rintro e w3 ⟨rfl, hb3⟩
          have B3 := Lib.hid (B2.out.trans (hb3.mono B2.out.size))
          clear hb3
          go_wp2
          go_ret2
          exact ⟨by rw [R1.out, R2.out]; rfl, B3.out⟩
        · have hr1 : r = 0 := by omega
          have hp1 : dpg 128 k = m := by rw [hpg]; split <;> omega
          rw [hp1] at R2 hb1
          have R3 := Lib.hid (HFl.out m hb1)
          have HU := Lib.hid (fun W => upto_any m W (by omega) (by omega))
          have HF := Lib.hid (fun W A cc (hr : Ri W A (upto 0 m)) => reffile_any 128 (upto 0 m) A cc (upto 0 m).length W hr rfl (by rw [upto_length]; omega))
          rw [R3.out] at HF
          generalize fN 128 (upto 0 m) = q at HF R2
          generalize upto 0 m = u at HU HF
          clear hpg hp1 HD HD2 HN HN2 HFl R3 hb1
          go_enter Try.func27, Try.ntmps27
          go_wp2_with fail
          refine (HS.out _).mono ?_
          rintro e w' ⟨rfl, rfl⟩
          go_wp2_with fail
          refine (HM.out _).mono ?_
          rintro e w' ⟨rfl, rfl⟩
          go_wp2_with fail
          refine (HU.out _).mono ?_
          rintro e w2 ⟨A, cc, rfl, -, hri, hb2⟩
          have B2 := Lib.hid hb2
          have HRi := Lib.hid hri
          clear hb2 hri HU
          go_wp2_with fail
          refine (HF.out _ _ _ HRi.out).mono ?_
          rintro e w3 ⟨rfl, hb3⟩
          have B3 := Lib.hid (B2.out.trans (hb3.mono B2.out.size))
          clear hb3
          go_wp2
          go_ret2
          exact ⟨by rw [R1.out, R2.out]; rfl, B3.out⟩
    · have hpgs : pgs 256 = 16518 := by decide
      have hpg : dpg 256 k = k / 16 + if 0 < k % 16 then 1 else 0 := rfl
      rw [hpgs] at HD HD2 HFl
      have HM : Hid (∀ w, Calls Try.prog 52 #[.int .i64 256] w fun e w' => e = .returned (.int .i64 4228608) ∧ w = w') := Lib.hid (fun w => refmost_any 256 w)
      by_cases hb : 264288 < k
      · have R1 := Lib.hid (HD.out (by rw [hpg]; split <;> omega))
        have R2 := Lib.hid (HN2.out (by rw [R1.out]; decide))
        clear hpg HD HD2 HN HN2
        go_enter Try.func27, Try.ntmps27
        go_wp2_with fail
        refine (HS.out _).mono ?_
        rintro e w' ⟨rfl, rfl⟩
        go_wp2_with fail
        refine (HM.out _).mono ?_
        rintro e w' ⟨rfl, rfl⟩
        go_wp2
        go_ret2
        exact ⟨by rw [R1.out, R2.out]; rfl, Below.refl _ _⟩
      · have hb1 : dpg 256 k ≤ 16518 := by rw [hpg]; split <;> omega
        have R1 := Lib.hid (HD2.out (by omega))
        have R2 := Lib.hid (HN.out R1.out)
        generalize hm : k * 16 / 256 = m
        generalize hr : k * 16 % 256 = r
        have hm0 : 0 ≤ m := by omega
        have hr0 : 0 ≤ r := by omega
        have hmP : m ≤ 16518 := by omega
        by_cases hrp : 0 < r
        · have hp1 : dpg 256 k = m + 1 := by rw [hpg]; split <;> omega
          rw [hp1] at R2 hb1
          have R3 := Lib.hid (HFl.out (m + 1) hb1)
          have HU := Lib.hid (fun W => upto_any (m + 1) W (by omega) (by omega))
          have HF := Lib.hid (fun W A cc (hr : Ri W A (upto 0 (m + 1))) => reffile_any 256 (upto 0 (m + 1)) A cc (upto 0 (m + 1)).length W hr rfl (by rw [upto_length]; omega))
          rw [R3.out] at HF
          generalize fN 256 (upto 0 (m + 1)) = q at HF R2
          generalize upto 0 (m + 1) = u at HU HF
          clear hpg hp1 HD HD2 HN HN2 HFl R3 hb1
          go_enter Try.func27, Try.ntmps27
          go_wp2_with fail
          refine (HS.out _).mono ?_
          rintro e w' ⟨rfl, rfl⟩
          go_wp2_with fail
          refine (HM.out _).mono ?_
          rintro e w' ⟨rfl, rfl⟩
          go_wp2_with fail
          refine (HU.out _).mono ?_
          rintro e w2 ⟨A, cc, rfl, -, hri, hb2⟩
          have B2 := Lib.hid hb2
          have HRi := Lib.hid hri
          clear hb2 hri HU
          go_wp2_with fail
          refine (HF.out _ _ _ HRi.out).mono ?_
          rintro e w3 ⟨rfl, hb3⟩
          have B3 := Lib.hid (B2.out.trans (hb3.mono B2.out.size))
          clear hb3
          go_wp2
          go_ret2
          exact ⟨by rw [R1.out, R2.out]; rfl, B3.out⟩
        · have hr1 : r = 0 := by omega
          have hp1 : dpg 256 k = m := by rw [hpg]; split <;> omega
          rw [hp1] at R2 hb1
          have R3 := Lib.hid (HFl.out m hb1)
          have HU := Lib.hid (fun W => upto_any m W (by omega) (by omega))
          have HF := Lib.hid (fun W A cc (hr : Ri W A (upto 0 m)) => reffile_any 256 (upto 0 m) A cc (upto 0 m).length W hr rfl (by rw [upto_length]; omega))
          rw [R3.out] at HF
          generalize fN 256 (upto 0 m) = q at HF R2
          generalize upto 0 m = u at HU HF
          clear hpg hp1 HD HD2 HN HN2 HFl R3 hb1
          go_enter Try.func27, Try.ntmps27
          go_wp2_with fail
          refine (HS.out _).mono ?_
          rintro e w' ⟨rfl, rfl⟩
          go_wp2_with fail
          refine (HM.out _).mono ?_
          rintro e w' ⟨rfl, rfl⟩
          go_wp2_with fail
          refine (HU.out _).mono ?_
          rintro e w2 ⟨A, cc, rfl, -, hri, hb2⟩
          have B2 := Lib.hid hb2
          have HRi := Lib.hid hri
          clear hb2 hri HU
          go_wp2_with fail
          refine (HF.out _ _ _ HRi.out).mono ?_
          rintro e w3 ⟨rfl, hb3⟩
          have B3 := Lib.hid (B2.out.trans (hb3.mono B2.out.size))
          clear hb3
          go_wp2
          go_ret2
          exact ⟨by rw [R1.out, R2.out]; rfl, B3.out⟩
    · have hpgs : pgs 512 = 65798 := by decide
      have hpg : dpg 512 k = k / 32 + if 0 < k % 32 then 1 else 0 := rfl
      rw [hpgs] at HD HD2 HFl
      have HM : Hid (∀ w, Calls Try.prog 52 #[.int .i64 512] w fun e w' => e = .returned (.int .i64 33688576) ∧ w = w') := Lib.hid (fun w => refmost_any 512 w)
      by_cases hb : 2105536 < k
      · have R1 := Lib.hid (HD.out (by rw [hpg]; split <;> omega))
        have R2 := Lib.hid (HN2.out (by rw [R1.out]; decide))
        clear hpg HD HD2 HN HN2
        go_enter Try.func27, Try.ntmps27
        go_wp2_with fail
        refine (HS.out _).mono ?_
        rintro e w' ⟨rfl, rfl⟩
        go_wp2_with fail
        refine (HM.out _).mono ?_
        rintro e w' ⟨rfl, rfl⟩
        go_wp2
        go_ret2
        exact ⟨by rw [R1.out, R2.out]; rfl, Below.refl _ _⟩
      · have hb1 : dpg 512 k ≤ 65798 := by rw [hpg]; split <;> omega
        have R1 := Lib.hid (HD2.out (by omega))
        have R2 := Lib.hid (HN.out R1.out)
        generalize hm : k * 16 / 512 = m
        generalize hr : k * 16 % 512 = r
        have hm0 : 0 ≤ m := by omega
        have hr0 : 0 ≤ r := by omega
        have hmP : m ≤ 65798 := by omega
        by_cases hrp : 0 < r
        · have hp1 : dpg 512 k = m + 1 := by rw [hpg]; split <;> omega
          rw [hp1] at R2 hb1
          have R3 := Lib.hid (HFl.out (m + 1) hb1)
          have HU := Lib.hid (fun W => upto_any (m + 1) W (by omega) (by omega))
          have HF := Lib.hid (fun W A cc (hr : Ri W A (upto 0 (m + 1))) => reffile_any 512 (upto 0 (m + 1)) A cc (upto 0 (m + 1)).length W hr rfl (by rw [upto_length]; omega))
          rw [R3.out] at HF
          generalize fN 512 (upto 0 (m + 1)) = q at HF R2
          generalize upto 0 (m + 1) = u at HU HF
          clear hpg hp1 HD HD2 HN HN2 HFl R3 hb1
          go_enter Try.func27, Try.ntmps27
          go_wp2_with fail
          refine (HS.out _).mono ?_
          rintro e w' ⟨rfl, rfl⟩
          go_wp2_with fail
          refine (HM.out _).mono ?_
          rintro e w' ⟨rfl, rfl⟩
          go_wp2_with fail
          refine (HU.out _).mono ?_
          rintro e w2 ⟨A, cc, rfl, -, hri, hb2⟩
          have B2 := Lib.hid hb2
          have HRi := Lib.hid hri
          clear hb2 hri HU
          go_wp2_with fail
          refine (HF.out _ _ _ HRi.out).mono ?_
          rintro e w3 ⟨rfl, hb3⟩
          have B3 := Lib.hid (B2.out.trans (hb3.mono B2.out.size))
          clear hb3
          go_wp2
          go_ret2
          exact ⟨by rw [R1.out, R2.out]; rfl, B3.out⟩
        · have hr1 : r = 0 := by omega
          have hp1 : dpg 512 k = m := by rw [hpg]; split <;> omega
          rw [hp1] at R2 hb1
          have R3 := Lib.hid (HFl.out m hb1)
          have HU := Lib.hid (fun W => upto_any m W (by omega) (by omega))
          have HF := Lib.hid (fun W A cc (hr : Ri W A (upto 0 m)) => reffile_any 512 (upto 0 m) A cc (upto 0 m).length W hr rfl (by rw [upto_length]; omega))
          rw [R3.out] at HF
          generalize fN 512 (upto 0 m) = q at HF R2
          generalize upto 0 m = u at HU HF
          clear hpg hp1 HD HD2 HN HN2 HFl R3 hb1
          go_enter Try.func27, Try.ntmps27
          go_wp2_with fail
          refine (HS.out _).mono ?_
          rintro e w' ⟨rfl, rfl⟩
          go_wp2_with fail
          refine (HM.out _).mono ?_
          rintro e w' ⟨rfl, rfl⟩
          go_wp2_with fail
          refine (HU.out _).mono ?_
          rintro e w2 ⟨A, cc, rfl, -, hri, hb2⟩
          have B2 := Lib.hid hb2
          have HRi := Lib.hid hri
          clear hb2 hri HU
          go_wp2_with fail
          refine (HF.out _ _ _ HRi.out).mono ?_
          rintro e w3 ⟨rfl, hb3⟩
          have B3 := Lib.hid (B2.out.trans (hb3.mono B2.out.size))
          clear hb3
          go_wp2
          go_ret2
          exact ⟨by rw [R1.out, R2.out]; rfl, B3.out⟩
  · rw [dN_no (by rw [dE_no h]; decide), dE_no h]
    by_cases hs : Sz s
    · have hk : k < 0 := by
        by_cases g : 0 ≤ k
        · exact absurd ⟨hs, g⟩ h
        · omega
      have HS := Lib.hid (fun w => irefsized_yes s w hs)
      clear h hs
      go_enter Try.func27, Try.ntmps27
      go_wp2_with fail
      refine (HS.out _).mono ?_
      rintro e w' ⟨rfl, rfl⟩
      go_wp2
      go_ret2
      exact ⟨rfl, Below.refl _ _⟩
    · have HS := Lib.hid (fun w => irefsized_no s w hs)
      clear h hs
      go_enter Try.func27, Try.ntmps27
      go_wp2_with fail
      refine (HS.out _).mono ?_
      rintro e w' ⟨rfl, rfl⟩
      go_wp2
      go_ret2
      exact ⟨rfl, Below.refl _ _⟩

end Go.Proofs.Ytladgfonkolpmaa
