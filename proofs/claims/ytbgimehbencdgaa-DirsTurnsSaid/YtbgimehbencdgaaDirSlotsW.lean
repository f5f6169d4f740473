/-
  The statement that any entry has its slot, or is refused, and that any bytes are a slot, or none.
-/
import Derived.Test.YtbgimehbencdgaaDirKnown
import Derived.Test.YtbgimehbencdgaaDirOpen
namespace Go.Proofs.Ytbgimehbencdgaa
open Go.RowKit Crcm Tagm Dirm Go.ChangeShapes

theorem dlong_any (a : Option Addr) (n c : Nat) (w : World) (n1 : n ≤ 9223372036854775807) : Calls Try.prog 8 #[.slice a n c] w fun e w' => e = .returned (.bool (decide (1500 < n))) ∧ w = w' := by
  go_enter Try.func8, Try.ntmps8
  go_wp2
  go_ret
  exact ⟨by simp; omega, rfl⟩

set_option maxRecDepth 100000 in
set_option maxHeartbeats 2000000 in
theorem dirsSlots_long (i : Int) (s : ByteArray) (a : Option Addr) (n c : Nat) (w : World) (n1 : n ≤ 9223372036854775807) (s1 : s.size ≤ 9223372036854775807) (h : 500 < s.size ∨ 1500 < n) :
    Calls Try.prog 3 #[.agg #[.int .i64 i, .string s], .slice a n c] w fun e w' => e = .returned (.bool true) ∧ Below w.heap.size w w' := by
  have HK := Lib.hid (fun w => dknown_any w)
  have HL := Lib.hid (fun w => dlong_any a n c w n1)
  have b1 : Below w.heap.size w (w.alloc (.cells #[.int .i64 i, .string s] 23)) := (Below.refl _ _).alloc (Nat.le_refl _) _
  have B1 := Lib.hid b1
  clear b1
  by_cases h5 : 500 < s.size
  · have t1 : decide (500 < (s.size : Int)) = true := by simp; omega
    clear h h5
    go_enter Try.func3, Try.ntmps3
    go_wp2_with fail
    refine (HK.out _).mono ?_
    rintro e w2 ⟨rfl, hb2⟩
    go_wp2
    go_ret
    exact ⟨rfl, B1.out.trans (hb2.mono B1.out.size)⟩
  · have t1 : decide (500 < (s.size : Int)) = false := by simp; omega
    rw [decide_eq_true (h.resolve_left h5)] at HL
    clear h h5
    go_enter Try.func3, Try.ntmps3
    go_wp2_with fail
    refine (HL.out _).mono ?_
    rintro e w' ⟨rfl, rfl⟩
    go_wp2_with fail
    refine (HK.out _).mono ?_
    rintro e w2 ⟨rfl, hb2⟩
    go_wp2
    go_ret
    exact ⟨rfl, B1.out.trans (hb2.mono B1.out.size)⟩

set_option maxRecDepth 100000 in
set_option maxHeartbeats 4000000 in
theorem dirsSlots_short (i : Int) (s : ByteArray) (a : Option Addr) (c : Nat) (l : List Int) (w : World) (h5 : s.size ≤ 500) (hn : l.length ≤ 1500) (hr : Rw w a l) (hc : l.length ≤ c) :
    Calls Try.prog 3 #[.agg #[.int .i64 i, .string s], .slice a l.length c] w fun e w' => e = .returned (.bool true) ∧ Below w.heap.size w w' := by
  have HK := Lib.hid (fun w => dknown_any w)
  have HL := Lib.hid (fun w => dlong_any a l.length c w (by omega))
  rw [decide_eq_false (by omega)] at HL
  have HW := Lib.hid (fun w => dwrite_all i s w)
  have HV := Lib.hid (fun w => rwrite_all i s w)
  unfold ev at HW HV
  have HR := Lib.hid (fun W hb => dread_any l a c l.length W hb rfl hc (by omega))
  have HQ := Lib.hid (fun W hb => rread_any l a c l.length W hb rfl hc (by omega))
  obtain ⟨x, hx⟩ : ∃ i, eI l = i := ⟨_, rfl⟩
  obtain ⟨t, ht⟩ : ∃ i, eS l = i := ⟨_, rfl⟩
  obtain ⟨u, hu⟩ : ∃ i, rU l = i := ⟨_, rfl⟩
  obtain ⟨e0, he⟩ : ∃ i, rE l = i := ⟨_, rfl⟩
  rw [hx, ht, hu, he] at HR HQ
  unfold rv at HR HQ
  clear hx ht hu he
  have t1 : decide (500 < (s.size : Int)) = false := by simp; omega
  obtain ⟨W0, hW0⟩ : ∃ W0, w.alloc (.cells #[.int .i64 i, .string s] 23) = W0 := ⟨_, rfl⟩
  have b0 : Below w.heap.size w W0 := by rw [← hW0]; exact (Below.refl _ _).alloc (Nat.le_refl _) _
  have k0 : Blk W0 w.heap.size 23 #[.int .i64 i, .string s] := by rw [← hW0]; exact Blk.new _ _ _
  have r0 := hr.below b0
  have HW0 := Lib.hid hW0
  clear hW0 hr
  have v0 : W0.cell? ⟨w.heap.size, 0, none⟩ = some (.int .i64 i) := k0.cell 0
  have v1 : W0.cell? ⟨w.heap.size, 1, none⟩ = some (.string s) := k0.cell 1
  go_enter Try.func3, Try.ntmps3
  go_wp2_with fail
  rw [HW0.out]
  refine (HL.out _).mono ?_
  rintro e w' ⟨rfl, rfl⟩
  go_wp2_with fail
  refine (HW.out _).mono ?_
  rintro e w1 ⟨⟨A, ca, rfl, hca, hcm, hA⟩, hb1⟩
  have k1 := k0.below hb1 k0.lt
  have v2 : w1.cell? ⟨w.heap.size, 0, none⟩ = some (.int .i64 i) := k1.cell 0
  have v3 : w1.cell? ⟨w.heap.size, 1, none⟩ = some (.string s) := k1.cell 1
  have b1 := b0.trans (hb1.mono b0.size)
  have r1 := r0.below hb1
  clear k0 k1 v0 v1 b0 r0 hb1 hca hcm
  go_wp2_with fail
  refine (HV.out _).mono ?_
  rintro e w2 ⟨⟨B, cb, rfl, hB⟩, hb2⟩
  have b2 := b1.trans (hb2.mono b1.size)
  have r2 := r1.below hb2
  have hA2 := hA.below hb2
  clear v2 v3 b1 r1 hA hb2
  go_wp2_with fail
  refine (HR.out _ r2).mono ?_
  rintro e w3 ⟨rfl, hb3⟩
  have b3 := b2.trans (hb3.mono b2.size)
  have r3 := (r2.below hb3).below ((Below.refl _ _).alloc (Nat.le_refl _) (.cells #[.int .i64 x, .string t] 23))
  have hA3 := (hA2.below hb3).below ((Below.refl _ _).alloc (Nat.le_refl _) (.cells #[.int .i64 x, .string t] 23))
  have hB3 := (hB.below hb3).below ((Below.refl _ _).alloc (Nat.le_refl _) (.cells #[.int .i64 x, .string t] 23))
  have k3 : Blk (w3.alloc (.cells #[.int .i64 x, .string t] 23)) w3.heap.size 23 #[.int .i64 x, .string t] := Blk.new _ _ _
  have b4 := b3.alloc b3.size (.cells #[.int .i64 x, .string t] 23)
  obtain ⟨G, hG⟩ : ∃ G, w3.heap.size = G := ⟨_, rfl⟩
  rw [hG] at k3
  clear b2 b3 r2 hA2 hB hb3
  go_wp2_with fail
  obtain ⟨W4, hW4⟩ : ∃ W4, w3.alloc (.cells #[.int .i64 x, .string t] 23) = W4 := ⟨_, rfl⟩
  rw [hW4] at b4 k3 hB3 hA3 r3 ⊢
  clear hW4 hG
  refine (HQ.out _ r3).mono ?_
  rintro e w5 ⟨rfl, hb5⟩
  have b5 := b4.trans (hb5.mono b4.size)
  have k5 := (k3.below hb5 k3.lt).alloc (.cells #[.int .i64 x, .string t] 23)
  have hA5 := (hA3.below hb5).below ((Below.refl _ _).alloc (Nat.le_refl _) (.cells #[.int .i64 x, .string t] 23))
  have hB5 := (hB3.below hb5).below ((Below.refl _ _).alloc (Nat.le_refl _) (.cells #[.int .i64 x, .string t] 23))
  have j5 : Blk (w5.alloc (.cells #[.int .i64 x, .string t] 23)) w5.heap.size 23 #[.int .i64 x, .string t] := Blk.new _ _ _
  have b6 := b5.alloc b5.size (.cells #[.int .i64 x, .string t] 23)
  clear b4 k3 hB3 hA3 r3 b5 hb5
  obtain ⟨G5, hG5⟩ : ∃ G, w5.heap.size = G := ⟨_, rfl⟩
  rw [hG5] at j5
  go_wp2_with fail
  obtain ⟨W6, hW6⟩ : ∃ W4, w5.alloc (.cells #[.int .i64 x, .string t] 23) = W4 := ⟨_, rfl⟩
  rw [hW6] at b6 k5 hB5 hA5 j5 ⊢
  clear hW6 hG5
  have HS := same_any A B ca cb (wB i s).length (wB i s).length (wB i s) (wB i s) W6 hA5 hB5 rfl rfl
  rw [decide_eq_true rfl] at HS
  refine HS.mono ?_
  rintro e w' ⟨rfl, rfl⟩
  have v0 : W6.cell? ⟨G, 0, none⟩ = some (.int .i64 x) := k5.cell 0
  have v1 : W6.cell? ⟨G, 1, none⟩ = some (.string t) := k5.cell 1
  have v2 : W6.cell? ⟨G5, 0, none⟩ = some (.int .i64 x) := j5.cell 0
  have v3 : W6.cell? ⟨G5, 1, none⟩ = some (.string t) := j5.cell 1
  clear HS hA5 hB5 k5 j5
  go_wp2_with fail
  refine (HK.out _).mono ?_
  rintro e w7 ⟨rfl, hb7⟩
  go_wp2
  go_ret
  exact ⟨rfl, b6.trans (hb7.mono b6.size)⟩

theorem dirsSlots_walk (i : Int) (s : ByteArray) (a : Option Addr) (len cap : Nat) (z : List Int) (w : World) (_w0 : (Lit.int .i64 i).wf = true) (ws : s.size ≤ maxLen) (hz : Row8 w a len cap z) :
    Calls Try.prog 3 #[.agg #[.int .i64 i, .string s], .slice a len cap] w fun e w' => e = .returned (.bool true) ∧ Below w.heap.size w w' := by
  obtain ⟨n, rfl, hc, hr, -⟩ := hz.rw
  have n1 : n.length ≤ 9223372036854775807 := by have := hr.2.1; unfold maxLen at this; omega
  by_cases h : 500 < s.size ∨ 1500 < n.length
  · exact dirsSlots_long i s a n.length cap w n1 (by unfold maxLen at ws; omega) h
  · exact dirsSlots_short i s a cap n w (by omega) (by omega) hr hc

end Go.Proofs.Ytbgimehbencdgaa
