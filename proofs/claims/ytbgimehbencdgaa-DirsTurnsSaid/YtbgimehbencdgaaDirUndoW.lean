/-
  The statement that what is added and removed again leaves the bytes as they were.
-/
import Derived.Test.YtbgimehbencdgaaDirSlotsW
import Derived.Test.YtbgimehbencdgaaDirRem
namespace Go.Proofs.Ytbgimehbencdgaa
open Go.RowKit Crcm Tagm Dirm Go.ChangeShapes

theorem ad_yes {l : List Int} {i : Int} {s : ByteArray} (h : adE l i s = 0) : ck l = 0 ∧ wE i s = 0 ∧ (fd l s).1 < 0 := by
  unfold adE at h
  split at h
  · rename_i h1
    split at h
    · rename_i h2
      split at h
      · rename_i h3; exact ⟨h1, h2, h3⟩
      · exact absurd h (by decide)
    · rename_i h2; exact absurd h h2
  · exact absurd h (by decide)
theorem undo_all {l : List Int} {i : Int} {s : ByteArray} (h : adE l i s = 0) : wkE (adL l i s) s = 0 ∧ rmL (adL l i s) s = l ∧ (adL l i s).length ≤ l.length + 16 := by
  obtain ⟨h1, h2, h3⟩ := ad_yes h
  have hR := rt_of_ck h1
  obtain ⟨g1, g2, g3⟩ := add_right hR h2 h3
  have e : adL l i s = adB l (sb i s) := by unfold adL; rw [if_pos h]
  have hx : (sb i s).length = 16 := sb_length (w_yes h2).2.1.2
  have f1 : ¬ (fd (adB l (sb i s)) s).1 < 0 := by rw [g2]; show ¬ ((rm l : Nat) : Int) < 0; omega
  have w1 : wkE (adB l (sb i s)) s = 0 := by unfold wkE; rw [if_pos g1.ckS, if_neg f1]
  have w2 : wk (adB l (sb i s)) s = ((rm l : Nat) : Int) := by unfold wk; rw [if_pos g1.ckS, if_neg f1, g2]
  rw [e]
  refine ⟨w1, ?_, ?_⟩
  · unfold rmL
    rw [if_pos w1, w2]
    exact undo hR hx
  · rw [adB_len hR hx]
    have := hR.len
    unfold adN
    split <;> omega
theorem ad_no {l : List Int} {i : Int} {s : ByteArray} (h : adE l i s ≠ 0) : adL l i s = [] := by unfold adL; rw [if_neg h]

set_option maxRecDepth 100000 in
set_option maxHeartbeats 2000000 in
theorem dirsUndoes_long (i : Int) (s : ByteArray) (a : Option Addr) (n c : Nat) (w : World) (n1 : n ≤ 9223372036854775807) (s1 : s.size ≤ 9223372036854775807) (h : 500 < s.size ∨ 1500 < n) :
    Calls Try.prog 7 #[.slice a n c, .agg #[.int .i64 i, .string s]] w fun e w' => e = .returned (.bool true) ∧ Below w.heap.size w w' := by
  have HK := Lib.hid (fun w => dknown_any w)
  have HL := Lib.hid (fun w => dlong_any a n c w n1)
  have b1 : Below w.heap.size w (w.alloc (.cells #[.int .i64 i, .string s] 23)) := (Below.refl _ _).alloc (Nat.le_refl _) _
  have B1 := Lib.hid b1
  clear b1
  by_cases h5 : 1500 < n
  · rw [decide_eq_true h5] at HL
    clear h h5
    go_enter Try.func7, Try.ntmps7
    go_wp2_with fail
    refine (HL.out _).mono ?_
    rintro e w' ⟨rfl, rfl⟩
    go_wp2_with fail
    refine (HK.out _).mono ?_
    rintro e w2 ⟨rfl, hb2⟩
    go_wp2
    go_ret
    exact ⟨rfl, B1.out.trans (hb2.mono B1.out.size)⟩
  · rw [decide_eq_false h5] at HL
    have t1 : decide (500 < (s.size : Int)) = true := by have := h.resolve_right h5; simp; omega
    clear h h5
    go_enter Try.func7, Try.ntmps7
    go_wp2_with fail
    refine (HL.out _).mono ?_
    rintro e w' ⟨rfl, rfl⟩
    go_wp2_with fail
    refine (HK.out _).mono ?_
    rintro e w2 ⟨rfl, hb2⟩
    go_wp2
    go_ret
    exact ⟨rfl, B1.out.trans (hb2.mono B1.out.size)⟩

set_option maxRecDepth 100000 in
set_option maxHeartbeats 4000000 in
theorem dirsUndoes_short (i : Int) (s : ByteArray) (a : Option Addr) (n c : Nat) (l : List Int) (w : World) (h5 : s.size ≤ 500) (hl : l.length = n) (hn : n ≤ 1500) (hr : Rw w a l) (hc : n ≤ c) (c1 : c ≤ 9223372036854775807) :
    Calls Try.prog 7 #[.slice a n c, .agg #[.int .i64 i, .string s]] w fun e w' => e = .returned (.bool true) ∧ Below w.heap.size w w' := by
  have HK := Lib.hid (fun w => dknown_any w)
  have HL := Lib.hid (fun w => dlong_any a n c w (by omega))
  rw [decide_eq_false (by omega)] at HL
  have HA := Lib.hid (fun W h => dadd_any l i s a n c W h hl hc c1 (by omega))
  have t1 : decide (500 < (s.size : Int)) = false := by simp; omega
  obtain ⟨W0, hW0⟩ : ∃ W0, w.alloc (.cells #[.int .i64 i, .string s] 23) = W0 := ⟨_, rfl⟩
  have b0 : Below w.heap.size w W0 := by rw [← hW0]; exact (Below.refl _ _).alloc (Nat.le_refl _) _
  have k0 : Blk W0 w.heap.size 23 #[.int .i64 i, .string s] := by rw [← hW0]; exact Blk.new _ _ _
  have r0 := hr.below b0
  have HW0 := Lib.hid hW0
  clear hW0 hr
  have v0 : W0.cell? ⟨w.heap.size, 0, none⟩ = some (.int .i64 i) := k0.cell 0
  have v1 : W0.cell? ⟨w.heap.size, 1, none⟩ = some (.string s) := k0.cell 1
  unfold ev at HA
  by_cases h : adE l i s = 0
  · obtain ⟨u1, u2, u3⟩ := undo_all h
    have HRm := Lib.hid (fun A c' W (g : Rw W A (adL l i s)) (g2 : (adL l i s).length ≤ c') (g3 : c' ≤ 9223372036854775807) => dremove_any (adL l i s) s A (adL l i s).length c' W g rfl g2 g3 (by omega))
    rw [u1, u2, hl] at HRm
    rw [h] at HA
    obtain ⟨X, hX⟩ : ∃ X, adL l i s = X := ⟨_, rfl⟩
    rw [hX] at HA HRm
    have HLl := Lib.hid hl
    clear h u1 u2 u3 hX hl
    go_enter Try.func7, Try.ntmps7
    go_wp2_with fail
    rw [HW0.out]
    refine (HL.out _).mono ?_
    rintro e w' ⟨rfl, rfl⟩
    go_wp2_with fail
    refine (HA.out _ r0).mono ?_
    rintro e w1 ⟨⟨A, ca, rfl, hca, hcm, hA⟩, hb1⟩
    have k1 := k0.below hb1 k0.lt
    have b1 := b0.trans (hb1.mono b0.size)
    have r1 := r0.below hb1
    have v2 : w1.cell? ⟨w.heap.size, 0, none⟩ = some (.int .i64 i) := k1.cell 0
    have v3 : w1.cell? ⟨w.heap.size, 1, none⟩ = some (.string s) := k1.cell 1
    clear k0 v0 v1 b0 r0 hb1
    go_wp2_with fail
    refine (HRm.out _ _ _ hA hca hcm).mono ?_
    rintro e w2 ⟨⟨B, cb, rfl, -, -, hB⟩, hb2⟩
    have b2 := b1.trans (hb2.mono b1.size)
    have HS := same_any B a cb c n n l l w2 hB (r1.below hb2) HLl.out HLl.out
    rw [decide_eq_true rfl] at HS
    clear k1 v2 v3 b1 hA hb2 hB
    go_wp2_with fail
    refine HS.mono ?_
    rintro e w' ⟨rfl, rfl⟩
    clear HS
    go_wp2_with fail
    refine (HK.out _).mono ?_
    rintro e w7 ⟨rfl, hb7⟩
    go_wp2
    go_ret
    exact ⟨rfl, b2.trans (hb7.mono b2.size)⟩
  · rw [ad_no h] at HA
    obtain ⟨x, hx⟩ : ∃ x, adE l i s = x := ⟨_, rfl⟩
    rw [hx] at HA h
    have h2 : (x != 0) = true := by simpa using h
    clear h hx hl
    go_enter Try.func7, Try.ntmps7
    go_wp2_with fail
    rw [HW0.out]
    refine (HL.out _).mono ?_
    rintro e w' ⟨rfl, rfl⟩
    go_wp2_with fail
    refine (HA.out _ r0).mono ?_
    rintro e w1 ⟨⟨A, ca, rfl, hca, hcm, hA⟩, hb1⟩
    have b1 := b0.trans (hb1.mono b0.size)
    clear k0 v0 v1 b0 r0 hb1
    go_wp2_with fail
    refine (HK.out _).mono ?_
    rintro e w7 ⟨rfl, hb7⟩
    go_wp2
    go_ret
    exact ⟨rfl, b1.trans (hb7.mono b1.size)⟩

theorem dirsUndoes_walk (a : Option Addr) (len cap : Nat) (z : List Int) (i : Int) (s : ByteArray) (w : World) (hz : Row8 w a len cap z) (_w0 : (Lit.int .i64 i).wf = true) (ws : s.size ≤ maxLen) :
    Calls Try.prog 7 #[.slice a len cap, .agg #[.int .i64 i, .string s]] w fun e w' => e = .returned (.bool true) ∧ Below w.heap.size w w' := by
  have c1 : cap ≤ 9223372036854775807 := by
    rcases hz with ⟨_, _, rfl, _⟩ | ⟨_, _, _, h, _⟩
    · omega
    · unfold maxLen at h; omega
  obtain ⟨n, hl, hc, hr, -⟩ := hz.rw
  by_cases h : 500 < s.size ∨ 1500 < len
  · exact dirsUndoes_long i s a len cap w (by omega) (by unfold maxLen at ws; omega) h
  · exact dirsUndoes_short i s a len cap n w (by omega) hl (by omega) hr hc c1

end Go.Proofs.Ytbgimehbencdgaa
