/-
  The statement that what is written is read as it was, and that a slot that is read is written as the same bytes.
-/
import Derived.Test.YtkfegjbeifcmoaaDirSlotsW
import Derived.Test.YtkfegjbeifcmoaaDirBackM
namespace Go.Proofs.Ytkfegjbeifcmoaa
open Go.RowKit Crcm Tagm Dirm Go.ChangeShapes

set_option maxRecDepth 100000 in
set_option maxHeartbeats 2000000 in
theorem dirsBack_long (i : Int) (s : ByteArray) (a : Option Addr) (n c : Nat) (w : World) (n1 : n ≤ 9223372036854775807) (s1 : s.size ≤ 9223372036854775807) (h : 500 < s.size ∨ 1500 < n) :
    Calls Try.prog 5 #[.agg #[.int .i64 i, .string s], .slice a n c] w fun e w' => e = .returned (.bool true) ∧ Below w.heap.size w w' := by
  have HK := Lib.hid (fun w => dknown_any w)
  have HL := Lib.hid (fun w => dlong_any a n c w n1)
  have b1 : Below w.heap.size w (w.alloc (.cells #[.int .i64 i, .string s] 23)) := (Below.refl _ _).alloc (Nat.le_refl _) _
  have B1 := Lib.hid b1
  clear b1
  by_cases h5 : 500 < s.size
  · have t1 : decide (500 < (s.size : Int)) = true := by simp; omega
    clear h h5
    go_enter Try.func5, Try.ntmps5
    go_wp2_with fail
    refine (HK.out _).mono ?_
    rintro e w2 ⟨rfl, hb2⟩
    go_wp2
    go_ret
    exact ⟨rfl, B1.out.trans (hb2.mono B1.out.size)⟩
  · have t1 : decide (500 < (s.size : Int)) = false := by simp; omega
    rw [decide_eq_true (h.resolve_left h5)] at HL
    clear h h5
    go_enter Try.func5, Try.ntmps5
    go_wp2_with fail
    refine (HL.out _).mono ?_
    rintro e w' ⟨rfl, rfl⟩
    go_wp2_with fail
    refine (HK.out _).mono ?_
    rintro e w2 ⟨rfl, hb2⟩
    go_wp2
    go_ret
    exact ⟨rfl, B1.out.trans (hb2.mono B1.out.size)⟩

set_option maxRecDepth 100000 in
set_option maxHeartbeats 4000000 in
theorem dirsBack_short (i : Int) (s : ByteArray) (a : Option Addr) (c : Nat) (l : List Int) (w : World) (h5 : s.size ≤ 500) (hn : l.length ≤ 1500) (hr : Rw w a l) (hc : l.length ≤ c) :
    Calls Try.prog 5 #[.agg #[.int .i64 i, .string s], .slice a l.length c] w fun e w' => e = .returned (.bool true) ∧ Below w.heap.size w w' := by
  have HK := Lib.hid (fun w => dknown_any w)
  have HL := Lib.hid (fun w => dlong_any a l.length c w (by omega))
  rw [decide_eq_false (by omega)] at HL
  have HW := Lib.hid (fun w => dwrite_all i s w)
  have HB := Lib.hid (fun W A ca (hb : Rw W A (wB i s)) (hca : (wB i s).length ≤ ca) (hcm : ca ≤ 9223372036854775807) => dread_any (wB i s) A ca (wB i s).length W hb rfl hca (by omega))
  have HR := Lib.hid (fun W hb => dread_any l a c l.length W hb rfl hc (by omega))
  have HV := Lib.hid (fun w => dwrite_all (eI l) (eS l) w)
  have E1 : wE i s = 0 → rE (wB i s) = 0 ∧ rU (wB i s) = true ∧ eI (wB i s) = i ∧ eS (wB i s) = s := fun h => by
    obtain ⟨hm, hn⟩ := w_yes h
    have e1 : wB i s = sb i s := by unfold wB; rw [if_pos h]
    rw [e1]; exact back_wr hm hn
  have E2 : rU l = true → wE (eI l) (eS l) = 0 ∧ wB (eI l) (eS l) = l := fun h => back_rd hr.1 h
  have E3 := Lib.hid E1
  have E4 := Lib.hid E2
  clear E1 E2
  unfold ev at HW HV
  unfold rv at HB HR
  have t1 : decide (500 < (s.size : Int)) = false := by simp; omega
  obtain ⟨W0, hW0⟩ : ∃ W0, w.alloc (.cells #[.int .i64 i, .string s] 23) = W0 := ⟨_, rfl⟩
  have b0 : Below w.heap.size w W0 := by rw [← hW0]; exact (Below.refl _ _).alloc (Nat.le_refl _) _
  have k0 : Blk W0 w.heap.size 23 #[.int .i64 i, .string s] := by rw [← hW0]; exact Blk.new _ _ _
  have r0 := hr.below b0
  have HW0 := Lib.hid hW0
  clear hW0 hr
  have v0 : W0.cell? ⟨w.heap.size, 0, none⟩ = some (.int .i64 i) := k0.cell 0
  have v1 : W0.cell? ⟨w.heap.size, 1, none⟩ = some (.string s) := k0.cell 1
  obtain ⟨x, hx⟩ : ∃ j, eI l = j := ⟨_, rfl⟩
  obtain ⟨t, ht⟩ : ∃ j, eS l = j := ⟨_, rfl⟩
  obtain ⟨e0, he⟩ : ∃ j, rE l = j := ⟨_, rfl⟩
  have hE0 : rU l = true → e0 = 0 := fun h => by
    unfold rU at h
    obtain ⟨g1, g2, g3⟩ := of_decide_eq_true h
    rw [← he]; exact (r_good g1 g2 g3).1
  rw [hx, ht, he] at HR
  rw [hx, ht] at HV
  have E5 := Lib.hid (fun h => by have := E4.out h; rw [hx, ht] at this; exact this : rU l = true → wE x t = 0 ∧ wB x t = l)
  clear hx ht he E4
  by_cases hP : wE i s = 0
  · by_cases hu : rU l = true
    · have tP := hP
      rw [hP] at HW
      rw [(E3.out hP).1, (E3.out hP).2.1, (E3.out hP).2.2.1, (E3.out hP).2.2.2] at HB
      clear tP hP E3
      rw [(E5.out hu).1, (E5.out hu).2] at HV
      have := hE0 hu
      subst this
      rw [hu] at HR
      clear hE0 E5 hu
      go_enter Try.func5, Try.ntmps5
      go_wp2_with fail
      rw [HW0.out]
      refine (HL.out _).mono ?_
      rintro e w' ⟨rfl, rfl⟩
      go_wp2_with fail
      refine (HW.out _).mono ?_
      rintro e w1 ⟨⟨A, ca, rfl, hca, hcm, hA⟩, hb1⟩
      have k1 := k0.below hb1 k0.lt
      have b1 := b0.trans (hb1.mono b0.size)
      have r1 := r0.below hb1
      clear k0 v0 v1 b0 r0 hb1
      go_wp2_with fail
      refine (HB.out _ A ca hA hca hcm).mono ?_
      rintro e w2 ⟨rfl, hb2⟩
      have b2 := b1.trans (hb2.mono b1.size)
      have r2 := (r1.below hb2).below ((Below.refl _ _).alloc (Nat.le_refl _) (.cells #[.int .i64 i, .string s] 23))
      have k2 := (k1.below hb2 k1.lt).alloc (.cells #[.int .i64 i, .string s] 23)
      have j2 : Blk (w2.alloc (.cells #[.int .i64 i, .string s] 23)) w2.heap.size 23 #[.int .i64 i, .string s] := Blk.new _ _ _
      have b3 := b2.alloc b2.size (.cells #[.int .i64 i, .string s] 23)
      obtain ⟨W2, hW2⟩ : ∃ W2, w2.alloc (.cells #[.int .i64 i, .string s] 23) = W2 := ⟨_, rfl⟩
      rw [hW2] at r2 k2 j2 b3
      have HW2 := Lib.hid hW2
      have v0 : W2.cell? ⟨w.heap.size, 0, none⟩ = some (.int .i64 i) := k2.cell 0
      have v1 : W2.cell? ⟨w.heap.size, 1, none⟩ = some (.string s) := k2.cell 1
      have v2 : W2.cell? ⟨w2.heap.size, 0, none⟩ = some (.int .i64 i) := j2.cell 0
      have v3 : W2.cell? ⟨w2.heap.size, 1, none⟩ = some (.string s) := j2.cell 1
      clear k1 b1 r1 hca hcm hA hb2 b2 k2 j2
      go_wp2_with fail
      try rw [HW2.out]
      clear hW2
      refine (HR.out _ r2).mono ?_
      rintro e w3 ⟨rfl, hb3⟩
      have b4 := b3.trans (hb3.mono b3.size)
      have r4 := (r2.below hb3).below ((Below.refl _ _).alloc (Nat.le_refl _) (.cells #[.int .i64 x, .string t] 23))
      have b5 := b4.alloc b4.size (.cells #[.int .i64 x, .string t] 23)
      clear b3 r2 hb3 b4 v0 v1 v2 v3
      go_wp2_with fail
      refine (HV.out _).mono ?_
      rintro e w6 ⟨⟨B, cb, rfl, -, -, hB⟩, hb6⟩
      have b6 := b5.trans (hb6.mono b5.size)
      have HS := same_any B a cb c l.length l.length l l w6 hB (r4.below hb6) rfl rfl
      rw [decide_eq_true rfl] at HS
      clear b5 r4 hB hb6
      go_wp2_with fail
      refine HS.mono ?_
      rintro e w' ⟨rfl, rfl⟩
      clear HS
      go_wp2_with fail
      refine (HK.out _).mono ?_
      rintro e w7 ⟨rfl, hb7⟩
      go_wp2
      go_ret
      exact ⟨rfl, b6.trans (hb7.mono b6.size)⟩
    · by_cases he : e0 = 0
      · have tP := hP
        rw [hP] at HW
        rw [(E3.out hP).1, (E3.out hP).2.1, (E3.out hP).2.2.1, (E3.out hP).2.2.2] at HB
        clear tP hP E3
        have hf : rU l = false := by simpa using hu
        rw [hf] at HR
        subst he
        clear hE0 E5 hu hf
        go_enter Try.func5, Try.ntmps5
        go_wp2_with fail
        rw [HW0.out]
        refine (HL.out _).mono ?_
        rintro e w' ⟨rfl, rfl⟩
        go_wp2_with fail
        refine (HW.out _).mono ?_
        rintro e w1 ⟨⟨A, ca, rfl, hca, hcm, hA⟩, hb1⟩
        have k1 := k0.below hb1 k0.lt
        have b1 := b0.trans (hb1.mono b0.size)
        have r1 := r0.below hb1
        clear k0 v0 v1 b0 r0 hb1
        go_wp2_with fail
        refine (HB.out _ A ca hA hca hcm).mono ?_
        rintro e w2 ⟨rfl, hb2⟩
        have b2 := b1.trans (hb2.mono b1.size)
        have r2 := (r1.below hb2).below ((Below.refl _ _).alloc (Nat.le_refl _) (.cells #[.int .i64 i, .string s] 23))
        have k2 := (k1.below hb2 k1.lt).alloc (.cells #[.int .i64 i, .string s] 23)
        have j2 : Blk (w2.alloc (.cells #[.int .i64 i, .string s] 23)) w2.heap.size 23 #[.int .i64 i, .string s] := Blk.new _ _ _
        have b3 := b2.alloc b2.size (.cells #[.int .i64 i, .string s] 23)
        obtain ⟨W2, hW2⟩ : ∃ W2, w2.alloc (.cells #[.int .i64 i, .string s] 23) = W2 := ⟨_, rfl⟩
        rw [hW2] at r2 k2 j2 b3
        have HW2 := Lib.hid hW2
        have v0 : W2.cell? ⟨w.heap.size, 0, none⟩ = some (.int .i64 i) := k2.cell 0
        have v1 : W2.cell? ⟨w.heap.size, 1, none⟩ = some (.string s) := k2.cell 1
        have v2 : W2.cell? ⟨w2.heap.size, 0, none⟩ = some (.int .i64 i) := j2.cell 0
        have v3 : W2.cell? ⟨w2.heap.size, 1, none⟩ = some (.string s) := j2.cell 1
        clear k1 b1 r1 hca hcm hA hb2 b2 k2 j2
        go_wp2_with fail
        try rw [HW2.out]
        clear hW2
        refine (HR.out _ r2).mono ?_
        rintro e w3 ⟨rfl, hb3⟩
        have b4 := b3.trans (hb3.mono b3.size)
        have r4 := (r2.below hb3).below ((Below.refl _ _).alloc (Nat.le_refl _) (.cells #[.int .i64 x, .string t] 23))
        have b5 := b4.alloc b4.size (.cells #[.int .i64 x, .string t] 23)
        clear b3 r2 hb3 b4 v0 v1 v2 v3
        go_wp2_with fail
        refine (HV.out _).mono ?_
        rintro e w6 ⟨⟨B, cb, rfl, -, -, -⟩, hb6⟩
        have b6 := b5.trans (hb6.mono b5.size)
        clear b5 r4 hb6
        go_wp2_with fail
        refine (HK.out _).mono ?_
        rintro e w7 ⟨rfl, hb7⟩
        go_wp2
        go_ret
        exact ⟨rfl, b6.trans (hb7.mono b6.size)⟩
      · have tP := hP
        rw [hP] at HW
        rw [(E3.out hP).1, (E3.out hP).2.1, (E3.out hP).2.2.1, (E3.out hP).2.2.2] at HB
        clear tP hP E3
        have hf : rU l = false := by simpa using hu
        rw [hf] at HR
        have tQ : (e0 != 0) = true := by simpa using he
        clear hE0 E5 hu hf he
        go_enter Try.func5, Try.ntmps5
        go_wp2_with fail
        rw [HW0.out]
        refine (HL.out _).mono ?_
        rintro e w' ⟨rfl, rfl⟩
        go_wp2_with fail
        refine (HW.out _).mono ?_
        rintro e w1 ⟨⟨A, ca, rfl, hca, hcm, hA⟩, hb1⟩
        have k1 := k0.below hb1 k0.lt
        have b1 := b0.trans (hb1.mono b0.size)
        have r1 := r0.below hb1
        clear k0 v0 v1 b0 r0 hb1
        go_wp2_with fail
        refine (HB.out _ A ca hA hca hcm).mono ?_
        rintro e w2 ⟨rfl, hb2⟩
        have b2 := b1.trans (hb2.mono b1.size)
        have r2 := (r1.below hb2).below ((Below.refl _ _).alloc (Nat.le_refl _) (.cells #[.int .i64 i, .string s] 23))
        have k2 := (k1.below hb2 k1.lt).alloc (.cells #[.int .i64 i, .string s] 23)
        have j2 : Blk (w2.alloc (.cells #[.int .i64 i, .string s] 23)) w2.heap.size 23 #[.int .i64 i, .string s] := Blk.new _ _ _
        have b3 := b2.alloc b2.size (.cells #[.int .i64 i, .string s] 23)
        obtain ⟨W2, hW2⟩ : ∃ W2, w2.alloc (.cells #[.int .i64 i, .string s] 23) = W2 := ⟨_, rfl⟩
        rw [hW2] at r2 k2 j2 b3
        have HW2 := Lib.hid hW2
        have v0 : W2.cell? ⟨w.heap.size, 0, none⟩ = some (.int .i64 i) := k2.cell 0
        have v1 : W2.cell? ⟨w.heap.size, 1, none⟩ = some (.string s) := k2.cell 1
        have v2 : W2.cell? ⟨w2.heap.size, 0, none⟩ = some (.int .i64 i) := j2.cell 0
        have v3 : W2.cell? ⟨w2.heap.size, 1, none⟩ = some (.string s) := j2.cell 1
        clear k1 b1 r1 hca hcm hA hb2 b2 k2 j2
        go_wp2_with fail
        try rw [HW2.out]
        clear hW2
        refine (HR.out _ r2).mono ?_
        rintro e w3 ⟨rfl, hb3⟩
        have b4 := b3.trans (hb3.mono b3.size)
        have r4 := (r2.below hb3).below ((Below.refl _ _).alloc (Nat.le_refl _) (.cells #[.int .i64 x, .string t] 23))
        have b5 := b4.alloc b4.size (.cells #[.int .i64 x, .string t] 23)
        clear b3 r2 hb3 b4 v0 v1 v2 v3
        go_wp2_with fail
        refine (HV.out _).mono ?_
        rintro e w6 ⟨⟨B, cb, rfl, -, -, -⟩, hb6⟩
        have b6 := b5.trans (hb6.mono b5.size)
        clear b5 r4 hb6
        go_wp2_with fail
        refine (HK.out _).mono ?_
        rintro e w7 ⟨rfl, hb7⟩
        go_wp2
        go_ret
        exact ⟨rfl, b6.trans (hb7.mono b6.size)⟩
  · by_cases hu : rU l = true
    · obtain ⟨x0, hx0⟩ : ∃ j, eI (wB i s) = j := ⟨_, rfl⟩
      obtain ⟨s0, hs0⟩ : ∃ j, eS (wB i s) = j := ⟨_, rfl⟩
      rw [hx0, hs0] at HB
      have tP : (wE i s == 0) = false := by simpa using hP
      clear hP E3 hx0 hs0
      rw [(E5.out hu).1, (E5.out hu).2] at HV
      have := hE0 hu
      subst this
      rw [hu] at HR
      clear hE0 E5 hu
      go_enter Try.func5, Try.ntmps5
      go_wp2_with fail
      rw [HW0.out]
      refine (HL.out _).mono ?_
      rintro e w' ⟨rfl, rfl⟩
      go_wp2_with fail
      refine (HW.out _).mono ?_
      rintro e w1 ⟨⟨A, ca, rfl, hca, hcm, hA⟩, hb1⟩
      have k1 := k0.below hb1 k0.lt
      have b1 := b0.trans (hb1.mono b0.size)
      have r1 := r0.below hb1
      clear k0 v0 v1 b0 r0 hb1
      go_wp2_with fail
      refine (HB.out _ A ca hA hca hcm).mono ?_
      rintro e w2 ⟨rfl, hb2⟩
      have b2 := b1.trans (hb2.mono b1.size)
      have r2 := (r1.below hb2).below ((Below.refl _ _).alloc (Nat.le_refl _) (.cells #[.int .i64 x0, .string s0] 23))
      have k2 := (k1.below hb2 k1.lt).alloc (.cells #[.int .i64 x0, .string s0] 23)
      have j2 : Blk (w2.alloc (.cells #[.int .i64 x0, .string s0] 23)) w2.heap.size 23 #[.int .i64 x0, .string s0] := Blk.new _ _ _
      have b3 := b2.alloc b2.size (.cells #[.int .i64 x0, .string s0] 23)
      obtain ⟨W2, hW2⟩ : ∃ W2, w2.alloc (.cells #[.int .i64 x0, .string s0] 23) = W2 := ⟨_, rfl⟩
      rw [hW2] at r2 k2 j2 b3
      have HW2 := Lib.hid hW2
      have v0 : W2.cell? ⟨w.heap.size, 0, none⟩ = some (.int .i64 i) := k2.cell 0
      have v1 : W2.cell? ⟨w.heap.size, 1, none⟩ = some (.string s) := k2.cell 1
      have v2 : W2.cell? ⟨w2.heap.size, 0, none⟩ = some (.int .i64 x0) := j2.cell 0
      have v3 : W2.cell? ⟨w2.heap.size, 1, none⟩ = some (.string s0) := j2.cell 1
      clear k1 b1 r1 hca hcm hA hb2 b2 k2 j2
      go_wp2_with fail
      try rw [HW2.out]
      clear hW2
      refine (HR.out _ r2).mono ?_
      rintro e w3 ⟨rfl, hb3⟩
      have b4 := b3.trans (hb3.mono b3.size)
      have r4 := (r2.below hb3).below ((Below.refl _ _).alloc (Nat.le_refl _) (.cells #[.int .i64 x, .string t] 23))
      have b5 := b4.alloc b4.size (.cells #[.int .i64 x, .string t] 23)
      clear b3 r2 hb3 b4 v0 v1 v2 v3
      go_wp2_with fail
      refine (HV.out _).mono ?_
      rintro e w6 ⟨⟨B, cb, rfl, -, -, hB⟩, hb6⟩
      have b6 := b5.trans (hb6.mono b5.size)
      have HS := same_any B a cb c l.length l.length l l w6 hB (r4.below hb6) rfl rfl
      rw [decide_eq_true rfl] at HS
      clear b5 r4 hB hb6
      go_wp2_with fail
      refine HS.mono ?_
      rintro e w' ⟨rfl, rfl⟩
      clear HS
      go_wp2_with fail
      refine (HK.out _).mono ?_
      rintro e w7 ⟨rfl, hb7⟩
      go_wp2
      go_ret
      exact ⟨rfl, b6.trans (hb7.mono b6.size)⟩
    · by_cases he : e0 = 0
      · obtain ⟨x0, hx0⟩ : ∃ j, eI (wB i s) = j := ⟨_, rfl⟩
        obtain ⟨s0, hs0⟩ : ∃ j, eS (wB i s) = j := ⟨_, rfl⟩
        rw [hx0, hs0] at HB
        have tP : (wE i s == 0) = false := by simpa using hP
        clear hP E3 hx0 hs0
        have hf : rU l = false := by simpa using hu
        rw [hf] at HR
        subst he
        clear hE0 E5 hu hf
        go_enter Try.func5, Try.ntmps5
        go_wp2_with fail
        rw [HW0.out]
        refine (HL.out _).mono ?_
        rintro e w' ⟨rfl, rfl⟩
        go_wp2_with fail
        refine (HW.out _).mono ?_
        rintro e w1 ⟨⟨A, ca, rfl, hca, hcm, hA⟩, hb1⟩
        have k1 := k0.below hb1 k0.lt
        have b1 := b0.trans (hb1.mono b0.size)
        have r1 := r0.below hb1
        clear k0 v0 v1 b0 r0 hb1
        go_wp2_with fail
        refine (HB.out _ A ca hA hca hcm).mono ?_
        rintro e w2 ⟨rfl, hb2⟩
        have b2 := b1.trans (hb2.mono b1.size)
        have r2 := (r1.below hb2).below ((Below.refl _ _).alloc (Nat.le_refl _) (.cells #[.int .i64 x0, .string s0] 23))
        have k2 := (k1.below hb2 k1.lt).alloc (.cells #[.int .i64 x0, .string s0] 23)
        have j2 : Blk (w2.alloc (.cells #[.int .i64 x0, .string s0] 23)) w2.heap.size 23 #[.int .i64 x0, .string s0] := Blk.new _ _ _
        have b3 := b2.alloc b2.size (.cells #[.int .i64 x0, .string s0] 23)
        obtain ⟨W2, hW2⟩ : ∃ W2, w2.alloc (.cells #[.int .i64 x0, .string s0] 23) = W2 := ⟨_, rfl⟩
        rw [hW2] at r2 k2 j2 b3
        have HW2 := Lib.hid hW2
        have v0 : W2.cell? ⟨w.heap.size, 0, none⟩ = some (.int .i64 i) := k2.cell 0
        have v1 : W2.cell? ⟨w.heap.size, 1, none⟩ = some (.string s) := k2.cell 1
        have v2 : W2.cell? ⟨w2.heap.size, 0, none⟩ = some (.int .i64 x0) := j2.cell 0
        have v3 : W2.cell? ⟨w2.heap.size, 1, none⟩ = some (.string s0) := j2.cell 1
        clear k1 b1 r1 hca hcm hA hb2 b2 k2 j2
        go_wp2_with fail
        try rw [HW2.out]
        clear hW2
        refine (HR.out _ r2).mono ?_
        rintro e w3 ⟨rfl, hb3⟩
        have b4 := b3.trans (hb3.mono b3.size)
        have r4 := (r2.below hb3).below ((Below.refl _ _).alloc (Nat.le_refl _) (.cells #[.int .i64 x, .string t] 23))
        have b5 := b4.alloc b4.size (.cells #[.int .i64 x, .string t] 23)
        clear b3 r2 hb3 b4 v0 v1 v2 v3
        go_wp2_with fail
        refine (HV.out _).mono ?_
        rintro e w6 ⟨⟨B, cb, rfl, -, -, -⟩, hb6⟩
        have b6 := b5.trans (hb6.mono b5.size)
        clear b5 r4 hb6
        go_wp2_with fail
        refine (HK.out _).mono ?_
        rintro e w7 ⟨rfl, hb7⟩
        go_wp2
        go_ret
        exact ⟨rfl, b6.trans (hb7.mono b6.size)⟩
      · obtain ⟨x0, hx0⟩ : ∃ j, eI (wB i s) = j := ⟨_, rfl⟩
        obtain ⟨s0, hs0⟩ : ∃ j, eS (wB i s) = j := ⟨_, rfl⟩
        rw [hx0, hs0] at HB
        have tP : (wE i s == 0) = false := by simpa using hP
        clear hP E3 hx0 hs0
        have hf : rU l = false := by simpa using hu
        rw [hf] at HR
        have tQ : (e0 != 0) = true := by simpa using he
        clear hE0 E5 hu hf he
        go_enter Try.func5, Try.ntmps5
        go_wp2_with fail
        rw [HW0.out]
        refine (HL.out _).mono ?_
        rintro e w' ⟨rfl, rfl⟩
        go_wp2_with fail
        refine (HW.out _).mono ?_
        rintro e w1 ⟨⟨A, ca, rfl, hca, hcm, hA⟩, hb1⟩
        have k1 := k0.below hb1 k0.lt
        have b1 := b0.trans (hb1.mono b0.size)
        have r1 := r0.below hb1
        clear k0 v0 v1 b0 r0 hb1
        go_wp2_with fail
        refine (HB.out _ A ca hA hca hcm).mono ?_
        rintro e w2 ⟨rfl, hb2⟩
        have b2 := b1.trans (hb2.mono b1.size)
        have r2 := (r1.below hb2).below ((Below.refl _ _).alloc (Nat.le_refl _) (.cells #[.int .i64 x0, .string s0] 23))
        have k2 := (k1.below hb2 k1.lt).alloc (.cells #[.int .i64 x0, .string s0] 23)
        have j2 : Blk (w2.alloc (.cells #[.int .i64 x0, .string s0] 23)) w2.heap.size 23 #[.int .i64 x0, .string s0] := Blk.new _ _ _
        have b3 := b2.alloc b2.size (.cells #[.int .i64 x0, .string s0] 23)
        obtain ⟨W2, hW2⟩ : ∃ W2, w2.alloc (.cells #[.int .i64 x0, .string s0] 23) = W2 := ⟨_, rfl⟩
        rw [hW2] at r2 k2 j2 b3
        have HW2 := Lib.hid hW2
        have v0 : W2.cell? ⟨w.heap.size, 0, none⟩ = some (.int .i64 i) := k2.cell 0
        have v1 : W2.cell? ⟨w.heap.size, 1, none⟩ = some (.string s) := k2.cell 1
        have v2 : W2.cell? ⟨w2.heap.size, 0, none⟩ = some (.int .i64 x0) := j2.cell 0
        have v3 : W2.cell? ⟨w2.heap.size, 1, none⟩ = some (.string s0) := j2.cell 1
        clear k1 b1 r1 hca hcm hA hb2 b2 k2 j2
        go_wp2_with fail
        try rw [HW2.out]
        clear hW2
        refine (HR.out _ r2).mono ?_
        rintro e w3 ⟨rfl, hb3⟩
        have b4 := b3.trans (hb3.mono b3.size)
        have r4 := (r2.below hb3).below ((Below.refl _ _).alloc (Nat.le_refl _) (.cells #[.int .i64 x, .string t] 23))
        have b5 := b4.alloc b4.size (.cells #[.int .i64 x, .string t] 23)
        clear b3 r2 hb3 b4 v0 v1 v2 v3
        go_wp2_with fail
        refine (HV.out _).mono ?_
        rintro e w6 ⟨⟨B, cb, rfl, -, -, -⟩, hb6⟩
        have b6 := b5.trans (hb6.mono b5.size)
        clear b5 r4 hb6
        go_wp2_with fail
        refine (HK.out _).mono ?_
        rintro e w7 ⟨rfl, hb7⟩
        go_wp2
        go_ret
        exact ⟨rfl, b6.trans (hb7.mono b6.size)⟩

theorem dirsBack_walk (i : Int) (s : ByteArray) (a : Option Addr) (len cap : Nat) (z : List Int) (w : World) (_w0 : (Lit.int .i64 i).wf = true) (ws : s.size ≤ maxLen) (hz : Row8 w a len cap z) :
    Calls Try.prog 5 #[.agg #[.int .i64 i, .string s], .slice a len cap] w fun e w' => e = .returned (.bool true) ∧ Below w.heap.size w w' := by
  obtain ⟨n, rfl, hc, hr, -⟩ := hz.rw
  have n1 : n.length ≤ 9223372036854775807 := by have := hr.2.1; unfold maxLen at this; omega
  by_cases h : 500 < s.size ∨ 1500 < n.length
  · exact dirsBack_long i s a n.length cap w n1 (by unfold maxLen at ws; omega) h
  · exact dirsBack_short i s a cap n w (by omega) (by omega) hr hc

end Go.Proofs.Ytkfegjbeifcmoaa
