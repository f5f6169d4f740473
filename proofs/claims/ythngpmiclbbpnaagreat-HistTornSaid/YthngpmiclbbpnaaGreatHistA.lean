/-
  What must come of the fixed calls of layer 25; the law HistWrites.
-/
import Derived.Test.YthngpmiclbbpnaaGreatHistN
namespace Go.Proofs.YthngpmiclbbpnaaGreat
open Go.RowKit Crcm Tagm Go.ChangeShapes

theorem Rw.blk {w : World} {g : Nat} {l : List Int} (h : Blk w g 5 (l.map (Value.int .u8)).toArray) (hu : ∀ x ∈ l, U8 x) (hl : l.length ≤ maxLen) : Rw w (some ⟨g, 0, none⟩) l := by
  refine ⟨hu, hl, .inr ⟨g, 0, rfl, fun i hi => ?_⟩⟩
  rw [Nat.zero_add, h.cell i]
  simp [List.getD_eq_getElem?_getD, hi]

set_option maxRecDepth 100000 in
set_option maxHeartbeats 2000000 in
theorem knownH_any (w : World) : Calls Tryz.prog 5 #[] w fun e w' => e = .returned (.bool true) ∧ Below w.heap.size w w' := by
  have HW := Lib.hid (hwrite_any none 0 0 [] w (.inl rfl) rfl (Nat.zero_le _) (by simp) (by simp [obs]))
  have HRd := Lib.hid (fun W A => hread_short A 1 1 W (by omega))
  have HD1 := Lib.hid (fun W => hisdo_nil W)
  have HD2 := Lib.hid (fun W => hdo_nil W)
  have HAg := Lib.hid (fun W => again_nil W)
  have HWN := Lib.hid wB_nil
  go_enter Tryz.func5, Tryz.ntmps5
  go_wp2_with fail
  refine HW.out.mono ?_
  rintro e w1 ⟨v, rfl, ho, hb1⟩
  rw [HWN.out.1]
  obtain ⟨a, cap, rfl, hr1, hl1, hc1⟩ := Rw.of_own ho (wB_U8 (by simp))
  have hU := Lib.hid (HWN.out.2.2)
  rw [HWN.out.2.1] at hc1
  have hl12 := HWN.out.2.1
  rw [hl12]
  have hadr : ∃ b off, a = some ⟨b, off, none⟩ := by
    rcases hr1.2.2 with h | ⟨b, off, h, -⟩
    · rw [h] at hl12; simp at hl12
    · exact ⟨b, off, h⟩
  obtain ⟨b, off, rfl⟩ := hadr
  have HR1 := Lib.hid (hr1.take 8)
  have HB1 := Lib.hid hb1
  have c8 : 8 ≤ cap := by omega
  clear ho hb1 hr1 hl1 hl12 HW
  have hal := (Below.refl w1.heap.size w1).alloc (Nat.le_refl _) (.cells #[.int .u8 1] 5)
  have HB2 := Lib.hid (HB1.out.trans (hal.mono HB1.out.size))
  have HR2 := Lib.hid (HR1.out.below hal)
  clear hal HR1 HB1
  go_wp2_with fail
  refine (HRd.out _ _).mono ?_
  rintro e w' ⟨rfl, rfl⟩
  generalize (w1.alloc (.cells #[.int .u8 1] 5)) = w2 at HB2 HR2 ⊢
  go_wp2_with fail
  refine (HD1.out _).mono ?_
  rintro e w3 ⟨rfl, hb3⟩
  have hal := (hb3.alloc hb3.size (.cells #[.int .i64 3, .int .i64 0, .slice none 0 0] 39))
  have HB3 := Lib.hid (HB2.out.trans (hal.mono HB2.out.size))
  have HR3 := Lib.hid (HR2.out.below hal)
  have HK3 := Lib.hid (Blk.new w3 39 #[.int .i64 3, .int .i64 0, .slice none 0 0])
  clear hal hb3 HB2 HR2
  go_upto_region 5 with (fail)
  generalize (w3.alloc (.cells #[.int .i64 3, .int .i64 0, .slice none 0 0] 39)) = w4 at HB3 HR3 HK3 ⊢
  generalize w3.heap.size = p at HK3 ⊢
  go_wp2_with fail
  refine (HD2.out _).mono ?_
  rintro e w5 ⟨rfl, hb5⟩
  have hal := (hb5.alloc hb5.size (.cells #[.int .i64 3, .int .i64 0, .slice none 0 0] 39))
  have HB5 := Lib.hid (HB3.out.trans (hal.mono HB3.out.size))
  have HR5 := Lib.hid (HR3.out.below hal)
  have HK5 := Lib.hid (HK3.out.below hal HK3.out.lt)
  have HQ5 := Lib.hid (Blk.new w5 39 #[.int .i64 3, .int .i64 0, .slice none 0 0])
  clear hal hb5 HB3 HR3 HK3
  go_upto_region 6 with (fail)
  generalize (w5.alloc (.cells #[.int .i64 3, .int .i64 0, .slice none 0 0] 39)) = w6 at HB5 HR5 HK5 HQ5 ⊢
  generalize w5.heap.size = q at HQ5 ⊢
  go_wp2_with fail
  refine (HAg.out _).mono ?_
  rintro e w7 ⟨rfl, hb7⟩
  have hal := (hb7.alloc hb7.size (.cells #[.int .u8 72, .int .u8 73, .int .u8 83, .int .u8 84, .int .u8 0, .int .u8 0, .int .u8 0, .int .u8 0] 5))
  have HB8 := Lib.hid (HB5.out.trans (hal.mono HB5.out.size))
  have HK8 := Lib.hid (HK5.out.below hal HK5.out.lt)
  have HQ8 := Lib.hid (HQ5.out.below hal HQ5.out.lt)
  have HSm := Lib.hid (same_any (some ⟨b, off, none⟩) (some ⟨w7.heap.size, 0, none⟩) cap 8 8 8 ((wB []).take 8) [72, 73, 83, 84, 0, 0, 0, 0] _ (HR5.out.below hal) (Rw.blk (Blk.new w7 5 _) (by intro x hx; simp at hx; unfold U8; omega) (by unfold maxLen; simp)) (by rw [List.length_take, HWN.out.2.1]; rfl) rfl)
  rw [show decide ((wB []).take 8 = [72, 73, 83, 84, 0, 0, 0, 0]) = true from decide_eq_true HWN.out.2.2] at HSm
  clear hal hb7 HB5 HR5 HK5 HQ5
  go_wp2_with fail
  refine HSm.out.mono ?_
  rintro e w' ⟨rfl, rfl⟩
  have c0 := HK8.out.cell 0
  have d0 := HQ8.out.cell 0
  simp only [List.getElem?_toArray, List.getElem?_cons_zero] at c0 d0
  go_wp2
  go_ret
  exact ⟨rfl, HB8.out⟩

end Go.Proofs.YthngpmiclbbpnaaGreat
