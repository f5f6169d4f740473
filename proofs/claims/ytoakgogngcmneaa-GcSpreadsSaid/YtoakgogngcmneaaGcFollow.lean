/-
  The row behind an action: the program's answer and the document's. Nothing of one statement alone stands here.
-/
import Derived.Test.YtoakgogngcmneaaGcOwn
import Derived.Test.YtoakgogngcmneaaGcBest
import Derived.Test.YtoakgogngcmneaaGcRefR
import Derived.RegionTactic
import Derived.Laws.StructEq
import Derived.Lib.SliceRun
namespace Gcm
/-- an action that is followed -/
def Ok (l : List Bk) (p kd bk : Int) : Prop := Rt l p ∧ (1 ≤ kd ∧ kd ≤ 4) ∧ (0 ≤ bk ∧ bk < l.length) ∧ l[bk.toNat]!.st ≠ 4
instance (l : List Bk) (p kd bk : Int) : Decidable (Ok l p kd bk) := by unfold Ok; infer_instance
/-- the row behind it -/
def fol (l : List Bk) (q : Nat) : List Bk := l.set q ⟨0, 0, l[q]!.wr + 1, 0⟩
end Gcm
namespace Go.Proofs.Ytoakgogngcmneaa
open Go.RowKit Gcm Go.ChangeShapes

set_option maxRecDepth 100000 in
set_option maxHeartbeats 1000000 in
theorem clone_any (l : List Bk) (b off cap n : Nat) (w : World) (hc : ∀ j, j < l.length → At w b (off + j * 4) l[j]!) (hl : l.length = n) (h0 : 0 < n) (h1 : n ≤ 1000000) :
    Calls Try.prog 67 #[.slice (some ⟨b, off, none⟩) n cap] w fun e w' => ∃ g c, e = .returned (.slice (some ⟨g, 0, none⟩) n c) ∧ w.heap.size ≤ g ∧ n ≤ c ∧ OwnB w' g l ∧ Below w.heap.size w w' := by
  have q22 : ∀ (w : World) (a : Option Addr) (n c n' c' : Nat), (binOp .eql 39 (.slice a n c) (.slice none n' c')).run Try.prog w = .ok (.bool a.isNone) w := fun w a n c n' c' => Lib.run_eql_slice_nil w _ _ a n c n' c' Try.underlying39
  have HC := Lib.hid hc
  clear hc
  go_enter Try.func67, Try.ntmps67
  go_wp2_with (at_builtin; refine append_blocks rfl _ _ rfl w.heap.size _ rfl (World.ownsRow_made w #[] 0 (Nat.le_refl _) (Nat.zero_le _) (by simp)) b off n cap l rfl hl h0 h1 (fun j hj => at_below (HC.out j hj) ((Below.refl _ _).alloc (Nat.le_refl _) _)) (by simp) ?_)
  intro g c w' hO hg hcap hb
  go_wp2
  go_ret
  exact ⟨g, c, rfl, hg, hcap, hO, ((Below.refl _ w).alloc (Nat.le_refl _) _).trans hb⟩

/-- what the call answers where the action is followed -/
def FolY (w : World) (l : List Bk) (n q : Nat) (e : Ending) (w' : World) : Prop :=
  ∃ g c, e = .returned (.tuple #[.slice (some ⟨g, 0, none⟩) n c, .int .i64 0]) ∧ w.heap.size ≤ g ∧ n ≤ c ∧ OwnB w' g (fol l q) ∧ Below w.heap.size w w'

set_option maxRecDepth 100000 in
set_option maxHeartbeats 1000000 in
theorem follow_yes (l : List Bk) (a : Option Addr) (cap n : Nat) (p kd : Int) (q : Nat) (w : World) (hr : Rg w a l) (hl : l.length = n) (h1 : n ≤ 1000000) (hok : Ok l p kd q) :
    Calls Try.prog 45 #[.slice a n cap, .int .i64 p, .agg #[.int .i64 kd, .int .i64 q]] w (FolY w l n q) := by
  obtain ⟨hRt, ⟨k1, k4⟩, ⟨_, hq⟩, hst⟩ := hok
  rw [Int.toNat_natCast] at hst
  have hql : q < l.length := by omega
  have hqn : q < n := by omega
  have hx := hRt.2 _ (getB_mem l q hql)
  obtain ⟨W0, hW0⟩ : ∃ W, w.alloc (.cells #[.int .i64 kd, .int .i64 q] 49) = W := ⟨_, rfl⟩
  have HW0 := Lib.hid hW0
  have B0 : Hid (Blk W0 w.heap.size 49 #[.int .i64 kd, .int .i64 q]) := Lib.hid (by rw [← hW0]; exact Blk.new w _ _)
  have BB : Hid (Below w.heap.size w W0) := Lib.hid (by rw [← hW0]; exact (Below.refl _ w).alloc (Nat.le_refl _) _)
  have HR := Lib.hid (right_any l a cap n p W0 (hr.below BB.out) hl)
  rw [decide_eq_true hRt] at HR
  rcases hr.2.2 with rfl | ⟨b, off, rfl, hc⟩
  · simp at hql
  have HC := Lib.hid hc
  have HFo := Lib.hid (show fol l q = l.set q ⟨0, 0, l[q]!.wr + 1, 0⟩ from rfl)
  have hcq := hc q hql
  generalize hy : l[q]! = y at hst hx hcq HFo
  obtain ⟨st, lv, wr, nx⟩ := y
  unfold Rb at hx
  dsimp only at hst hx hcq HFo
  have hwx : wrap64 (wr + 1) = wr + 1 := IntWalk.wrap64_in _ ⟨by omega, by omega⟩
  have d4 : (st == 4) = false := by simp [hst]
  have k1' : decide (kd < 1) = false := decide_eq_false (by omega)
  have k0' : decide (kd ≤ 0) = false := decide_eq_false (by omega)
  have k4' : decide (4 < kd) = false := decide_eq_false (by omega)
  have HCQ := Lib.hid hcq
  have HL := Lib.hid hl
  clear hr hRt hc hW0 hx hy hst hcq k1 k4 hl
  go_enter Try.func45, Try.ntmps45
  go_wp2_with fail
  rw [HW0.out]
  refine HR.out.mono ?_
  rintro e w1 ⟨rfl, hb1⟩
  have BB1 := Lib.hid (BB.out.trans (hb1.mono BB.out.size))
  have B1 := Lib.hid (B0.out.below hb1 B0.out.lt)
  obtain ⟨c0, c1, c2, c3⟩ := at_below HCQ.out BB1.out
  have d0 := B1.out.cell 0
  have d1 := B1.out.cell 1
  simp at d0 d1
  clear hb1 B0 HR HW0 c1 c2 c3
  have HCl := Lib.hid (clone_any l b off cap n w1 (fun j hj => at_below (HC.out j hj) BB1.out) HL.out (by omega) h1)
  go_wp2_with fail
  refine HCl.out.mono ?_
  rintro e w2 ⟨g, c, rfl, hg, hcap, hO, hb2⟩
  clear HCl HC d0 d1 c0
  have B2 := Lib.hid (B1.out.below hb2 B1.out.lt)
  have BB2 := Lib.hid (BB1.out.trans (hb2.mono BB1.out.size))
  obtain ⟨c0, c1, c2, c3⟩ := at_below HCQ.out BB2.out
  dsimp only at c0 c1 c2 c3
  have d1 := B2.out.cell 1
  simp at d1
  have hqo : q < l.length := by rw [HL.out]; exact hqn
  obtain ⟨o0, o1, o2, o3⟩ := hO.at q hqo
  have u0 := hO.frozen (q * 4)
  have u1 := hO.frozen (q * 4 + 1)
  have u2 := hO.frozen (q * 4 + 2)
  have u3 := hO.frozen (q * 4 + 3)
  have HP := Lib.hid (hO.put q hqo ⟨0, 0, wr + 1, 0⟩)
  rw [← HFo.out] at HP
  have HBP := Lib.hid (ov4_below (g := g) (o := q * 4) (b := ⟨0, 0, wr + 1, 0⟩) BB2.out (Nat.le_trans BB1.out.size hg))
  have hgw : w.heap.size ≤ g := Nat.le_trans BB1.out.size hg
  have hgne : g ≠ w.heap.size := by have := B1.out.lt; omega
  have qi : (q : Int) < (n : Int) := by omega
  have qi0 : (0 : Int) ≤ (q : Int) := by omega
  clear hb2 hO B1 HFo c0 c1 c3
  go_wp2_with fail
  go_region
  go_wp2
  go_ret2
  exact ⟨g, c, rfl, hgw, hcap, HP.out, HBP.out.drew⟩
set_option maxRecDepth 100000 in
set_option maxHeartbeats 1000000 in
theorem refFollow_yes (l : List Bk) (a : Option Addr) (cap n : Nat) (p kd : Int) (q : Nat) (w : World) (hr : Rg w a l) (hl : l.length = n) (h1 : n ≤ 1000000) (hok : Ok l p kd q) :
    Calls Try.prog 46 #[.slice a n cap, .int .i64 p, .agg #[.int .i64 kd, .int .i64 q]] w (FolY w l n q) := by
  obtain ⟨hRt, ⟨k1, k4⟩, ⟨_, hq⟩, hst⟩ := hok
  rw [Int.toNat_natCast] at hst
  have hql : q < l.length := by omega
  have hqn : q < n := by omega
  have hx := hRt.2 _ (getB_mem l q hql)
  obtain ⟨W0, hW0⟩ : ∃ W, w.alloc (.cells #[.int .i64 kd, .int .i64 q] 47) = W := ⟨_, rfl⟩
  have HW0 := Lib.hid hW0
  have B0 : Hid (Blk W0 w.heap.size 47 #[.int .i64 kd, .int .i64 q]) := Lib.hid (by rw [← hW0]; exact Blk.new w _ _)
  have BB : Hid (Below w.heap.size w W0) := Lib.hid (by rw [← hW0]; exact (Below.refl _ w).alloc (Nat.le_refl _) _)
  have HR := Lib.hid (refRight_any l a cap n p W0 (hr.below BB.out) hl)
  rw [decide_eq_true hRt] at HR
  rcases hr.2.2 with rfl | ⟨b, off, rfl, hc⟩
  · simp at hql
  have HC := Lib.hid hc
  have HFo := Lib.hid (show fol l q = l.set q ⟨0, 0, l[q]!.wr + 1, 0⟩ from rfl)
  have hcq := hc q hql
  generalize hy : l[q]! = y at hst hx hcq HFo
  obtain ⟨st, lv, wr, nx⟩ := y
  unfold Rb at hx
  dsimp only at hst hx hcq HFo
  have hwx : wrap64 (wr + 1) = wr + 1 := IntWalk.wrap64_in _ ⟨by omega, by omega⟩
  have d4 : (st == 4) = false := by simp [hst]
  have k1' : decide (kd < 1) = false := decide_eq_false (by omega)
  have k0' : decide (kd ≤ 0) = false := decide_eq_false (by omega)
  have k4' : decide (4 < kd) = false := decide_eq_false (by omega)
  have HCQ := Lib.hid hcq
  have HL := Lib.hid hl
  clear hr hRt hc hW0 hx hy hst hcq k1 k4 hl
  go_enter Try.func46, Try.ntmps46
  go_wp2_with fail
  rw [HW0.out]
  refine HR.out.mono ?_
  rintro e w1 ⟨rfl, hb1⟩
  have BB1 := Lib.hid (BB.out.trans (hb1.mono BB.out.size))
  have B1 := Lib.hid (B0.out.below hb1 B0.out.lt)
  obtain ⟨c0, c1, c2, c3⟩ := at_below HCQ.out BB1.out
  have d0 := B1.out.cell 0
  have d1 := B1.out.cell 1
  simp at d0 d1
  clear hb1 B0 HR HW0 c1 c2 c3
  go_wp2_with (at_builtin; refine append_blocks rfl _ _ rfl w1.heap.size (.slice none 0 0) rfl (World.ownsRow_nil _ _ _ _) b off n cap l rfl HL.out (by omega) h1 (fun j hj => at_below (HC.out j hj) BB1.out) (Nat.le_refl _) ?_)
  intro g c w2 hO hg hcap hb2
  clear HC d0 d1 c0
  have B2 := Lib.hid (B1.out.below hb2 B1.out.lt)
  have BB2 := Lib.hid (BB1.out.trans (hb2.mono BB1.out.size))
  obtain ⟨c0, c1, c2, c3⟩ := at_below HCQ.out BB2.out
  dsimp only at c0 c1 c2 c3
  have d1 := B2.out.cell 1
  simp at d1
  have hqo : q < l.length := by rw [HL.out]; exact hqn
  obtain ⟨o0, o1, o2, o3⟩ := hO.at q hqo
  have u0 := hO.frozen (q * 4)
  have u1 := hO.frozen (q * 4 + 1)
  have u2 := hO.frozen (q * 4 + 2)
  have u3 := hO.frozen (q * 4 + 3)
  have HP := Lib.hid (hO.put q hqo ⟨0, 0, wr + 1, 0⟩)
  rw [← HFo.out] at HP
  have HBP := Lib.hid (ov4_below (g := g) (o := q * 4) (b := ⟨0, 0, wr + 1, 0⟩) BB2.out (Nat.le_trans BB1.out.size hg))
  have hgw : w.heap.size ≤ g := Nat.le_trans BB1.out.size hg
  have hgne : g ≠ w.heap.size := by have := B1.out.lt; omega
  have qi : (q : Int) < (n : Int) := by omega
  have qi0 : (0 : Int) ≤ (q : Int) := by omega
  clear hb2 hO B1 HFo c0 c1 c3
  go_wp2_with fail
  go_region
  go_wp2
  go_ret2
  exact ⟨g, c, rfl, hgw, hcap, HP.out, HBP.out.drew⟩

set_option maxRecDepth 100000 in
set_option maxHeartbeats 1000000 in
theorem follow_no (l : List Bk) (a : Option Addr) (cap n : Nat) (p kd bk : Int) (w : World) (hr : Rg w a l) (hl : l.length = n) (hno : ¬ Ok l p kd bk) :
    Calls Try.prog 45 #[.slice a n cap, .int .i64 p, .agg #[.int .i64 kd, .int .i64 bk]] w fun e w' => e = .returned (.tuple #[.slice none 0 0, .int .i64 1]) ∧ Below w.heap.size w w' := by
  obtain ⟨W0, hW0⟩ : ∃ W, w.alloc (.cells #[.int .i64 kd, .int .i64 bk] 49) = W := ⟨_, rfl⟩
  have HW0 := Lib.hid hW0
  have B0 : Hid (Blk W0 w.heap.size 49 #[.int .i64 kd, .int .i64 bk]) := Lib.hid (by rw [← hW0]; exact Blk.new w _ _)
  have BB : Hid (Below w.heap.size w W0) := Lib.hid (by rw [← hW0]; exact (Below.refl _ w).alloc (Nat.le_refl _) _)
  have HR := Lib.hid (right_any l a cap n p W0 (hr.below BB.out) hl)
  have HRg := Lib.hid hr
  have HL := Lib.hid hl
  clear hW0 hr hl
  by_cases hRt : Rt l p
  · rw [decide_eq_true hRt] at HR
    have hno2 : ¬ ((1 ≤ kd ∧ kd ≤ 4) ∧ (0 ≤ bk ∧ bk < l.length) ∧ l[bk.toNat]!.st ≠ 4) := fun h => hno ⟨hRt, h⟩
    clear hno hRt
    by_cases h1 : kd < 1
    · have t1 : decide (kd < 1) = true := decide_eq_true h1
      have t1' : decide (kd ≤ 0) = true := decide_eq_true (by omega)
      clear hno2 h1
      go_enter Try.func45, Try.ntmps45
      go_wp2_with fail
      rw [HW0.out]
      refine HR.out.mono ?_
      rintro e w1 ⟨rfl, hb1⟩
      have BB1 := Lib.hid (BB.out.trans (hb1.mono BB.out.size))
      have B1 := Lib.hid (B0.out.below hb1 B0.out.lt)
      have d0 := B1.out.cell 0
      have d1 := B1.out.cell 1
      simp at d0 d1
      clear hb1 B0 HR HW0
      go_wp2
      go_ret2
      exact ⟨rfl, BB1.out⟩
    have t1 : decide (kd < 1) = false := decide_eq_false h1
    have t1' : decide (kd ≤ 0) = false := decide_eq_false (by omega)
    by_cases h4 : 4 < kd
    · have t4 : decide (4 < kd) = true := decide_eq_true h4
      clear hno2 h1 h4
      go_enter Try.func45, Try.ntmps45
      go_wp2_with fail
      rw [HW0.out]
      refine HR.out.mono ?_
      rintro e w1 ⟨rfl, hb1⟩
      have BB1 := Lib.hid (BB.out.trans (hb1.mono BB.out.size))
      have B1 := Lib.hid (B0.out.below hb1 B0.out.lt)
      have d0 := B1.out.cell 0
      have d1 := B1.out.cell 1
      simp at d0 d1
      clear hb1 B0 HR HW0
      go_wp2
      go_ret2
      exact ⟨rfl, BB1.out⟩
    have t4 : decide (4 < kd) = false := decide_eq_false h4
    by_cases hb0 : bk < 0
    · have t0 : decide (bk < 0) = true := decide_eq_true hb0
      clear hno2 h1 h4 hb0
      go_enter Try.func45, Try.ntmps45
      go_wp2_with fail
      rw [HW0.out]
      refine HR.out.mono ?_
      rintro e w1 ⟨rfl, hb1⟩
      have BB1 := Lib.hid (BB.out.trans (hb1.mono BB.out.size))
      have B1 := Lib.hid (B0.out.below hb1 B0.out.lt)
      have d0 := B1.out.cell 0
      have d1 := B1.out.cell 1
      simp at d0 d1
      clear hb1 B0 HR HW0
      go_wp2
      go_ret2
      exact ⟨rfl, BB1.out⟩
    obtain ⟨q, rfl⟩ : ∃ q : Nat, bk = q := ⟨bk.toNat, by omega⟩
    have t0 : decide ((q : Int) < 0) = false := decide_eq_false hb0
    rw [Int.toNat_natCast] at hno2
    by_cases hq : n ≤ q
    · have t5 : decide ((n : Int) ≤ (q : Int)) = true := decide_eq_true (by omega)
      clear hno2 h1 h4 hb0
      go_enter Try.func45, Try.ntmps45
      go_wp2_with fail
      rw [HW0.out]
      refine HR.out.mono ?_
      rintro e w1 ⟨rfl, hb1⟩
      have BB1 := Lib.hid (BB.out.trans (hb1.mono BB.out.size))
      have B1 := Lib.hid (B0.out.below hb1 B0.out.lt)
      have d0 := B1.out.cell 0
      have d1 := B1.out.cell 1
      simp at d0 d1
      clear hb1 B0 HR HW0
      go_wp2
      go_ret2
      exact ⟨rfl, BB1.out⟩
    have hql : q < l.length := by have := HL.out; omega
    have t5 : decide ((n : Int) ≤ (q : Int)) = false := decide_eq_false (by omega)
    have hst : l[q]!.st = 4 := Classical.byContradiction fun h => hno2 ⟨⟨by omega, by omega⟩, ⟨by omega, by omega⟩, h⟩
    rcases HRg.out.2.2 with rfl | ⟨b, off, rfl, hc⟩
    · simp at hql
    have hcq := hc q hql
    generalize l[q]! = y at hst hcq
    obtain ⟨st, lv, wr, nx⟩ := y
    dsimp only at hst
    subst hst
    have HCQ := Lib.hid hcq
    have qi : (q : Int) < (n : Int) := by omega
    have qi0 : (0 : Int) ≤ (q : Int) := by omega
    clear hno2 h1 h4 hb0 hc hcq
    go_enter Try.func45, Try.ntmps45
    go_wp2_with fail
    rw [HW0.out]
    refine HR.out.mono ?_
    rintro e w1 ⟨rfl, hb1⟩
    have BB1 := Lib.hid (BB.out.trans (hb1.mono BB.out.size))
    have B1 := Lib.hid (B0.out.below hb1 B0.out.lt)
    have d0 := B1.out.cell 0
    have d1 := B1.out.cell 1
    simp at d0 d1
    clear hb1 B0 HR HW0
    obtain ⟨c0, c1, c2, c3⟩ := at_below HCQ.out BB1.out
    go_wp2
    go_ret2
    exact ⟨rfl, BB1.out⟩
  · rw [decide_eq_false hRt] at HR
    clear hno hRt
    go_enter Try.func45, Try.ntmps45
    go_wp2_with fail
    rw [HW0.out]
    refine HR.out.mono ?_
    rintro e w1 ⟨rfl, hb1⟩
    have BB1 := Lib.hid (BB.out.trans (hb1.mono BB.out.size))
    have B1 := Lib.hid (B0.out.below hb1 B0.out.lt)
    have d0 := B1.out.cell 0
    have d1 := B1.out.cell 1
    simp at d0 d1
    clear hb1 B0 HR HW0
    go_wp2
    go_ret2
    exact ⟨rfl, BB1.out⟩

set_option maxRecDepth 100000 in
set_option maxHeartbeats 1000000 in
theorem refFollow_no (l : List Bk) (a : Option Addr) (cap n : Nat) (p kd bk : Int) (w : World) (hr : Rg w a l) (hl : l.length = n) (hno : ¬ Ok l p kd bk) :
    Calls Try.prog 46 #[.slice a n cap, .int .i64 p, .agg #[.int .i64 kd, .int .i64 bk]] w fun e w' => e = .returned (.tuple #[.slice none 0 0, .int .i64 1]) ∧ Below w.heap.size w w' := by
  obtain ⟨W0, hW0⟩ : ∃ W, w.alloc (.cells #[.int .i64 kd, .int .i64 bk] 47) = W := ⟨_, rfl⟩
  have HW0 := Lib.hid hW0
  have B0 : Hid (Blk W0 w.heap.size 47 #[.int .i64 kd, .int .i64 bk]) := Lib.hid (by rw [← hW0]; exact Blk.new w _ _)
  have BB : Hid (Below w.heap.size w W0) := Lib.hid (by rw [← hW0]; exact (Below.refl _ w).alloc (Nat.le_refl _) _)
  have HR := Lib.hid (refRight_any l a cap n p W0 (hr.below BB.out) hl)
  have HRg := Lib.hid hr
  have HL := Lib.hid hl
  clear hW0 hr hl
  by_cases hRt : Rt l p
  · rw [decide_eq_true hRt] at HR
    have hno2 : ¬ ((1 ≤ kd ∧ kd ≤ 4) ∧ (0 ≤ bk ∧ bk < l.length) ∧ l[bk.toNat]!.st ≠ 4) := fun h => hno ⟨hRt, h⟩
    clear hno hRt
    by_cases h1 : kd < 1
    · have t1 : decide (kd < 1) = true := decide_eq_true h1
      have t1' : decide (kd ≤ 0) = true := decide_eq_true (by omega)
      clear hno2 h1
      go_enter Try.func46, Try.ntmps46
      go_wp2_with fail
      rw [HW0.out]
      refine HR.out.mono ?_
      rintro e w1 ⟨rfl, hb1⟩
      have BB1 := Lib.hid (BB.out.trans (hb1.mono BB.out.size))
      have B1 := Lib.hid (B0.out.below hb1 B0.out.lt)
      have d0 := B1.out.cell 0
      have d1 := B1.out.cell 1
      simp at d0 d1
      clear hb1 B0 HR HW0
      go_wp2
      go_ret2
      exact ⟨rfl, BB1.out⟩
    have t1 : decide (kd < 1) = false := decide_eq_false h1
    have t1' : decide (kd ≤ 0) = false := decide_eq_false (by omega)
    by_cases h4 : 4 < kd
    · have t4 : decide (4 < kd) = true := decide_eq_true h4
      clear hno2 h1 h4
      go_enter Try.func46, Try.ntmps46
      go_wp2_with fail
      rw [HW0.out]
      refine HR.out.mono ?_
      rintro e w1 ⟨rfl, hb1⟩
      have BB1 := Lib.hid (BB.out.trans (hb1.mono BB.out.size))
      have B1 := Lib.hid (B0.out.below hb1 B0.out.lt)
      have d0 := B1.out.cell 0
      have d1 := B1.out.cell 1
      simp at d0 d1
      clear hb1 B0 HR HW0
      go_wp2
      go_ret2
      exact ⟨rfl, BB1.out⟩
    have t4 : decide (4 < kd) = false := decide_eq_false h4
    by_cases hb0 : bk < 0
    · have t0 : decide (bk < 0) = true := decide_eq_true hb0
      clear hno2 h1 h4 hb0
      go_enter Try.func46, Try.ntmps46
      go_wp2_with fail
      rw [HW0.out]
      refine HR.out.mono ?_
      rintro e w1 ⟨rfl, hb1⟩
      have BB1 := Lib.hid (BB.out.trans (hb1.mono BB.out.size))
      have B1 := Lib.hid (B0.out.below hb1 B0.out.lt)
      have d0 := B1.out.cell 0
      have d1 := B1.out.cell 1
      simp at d0 d1
      clear hb1 B0 HR HW0
      go_wp2
      go_ret2
      exact ⟨rfl, BB1.out⟩
    obtain ⟨q, rfl⟩ : ∃ q : Nat, bk = q := ⟨bk.toNat, by omega⟩
    have t0 : decide ((q : Int) < 0) = false := decide_eq_false hb0
    rw [Int.toNat_natCast] at hno2
    by_cases hq : n ≤ q
    · have t5 : decide ((n : Int) ≤ (q : Int)) = true := decide_eq_true (by omega)
      clear hno2 h1 h4 hb0
      go_enter Try.func46, Try.ntmps46
      go_wp2_with fail
      rw [HW0.out]
      refine HR.out.mono ?_
      rintro e w1 ⟨rfl, hb1⟩
      have BB1 := Lib.hid (BB.out.trans (hb1.mono BB.out.size))
      have B1 := Lib.hid (B0.out.below hb1 B0.out.lt)
      have d0 := B1.out.cell 0
      have d1 := B1.out.cell 1
      simp at d0 d1
      clear hb1 B0 HR HW0
      go_wp2
      go_ret2
      exact ⟨rfl, BB1.out⟩
    have hql : q < l.length := by have := HL.out; omega
    have t5 : decide ((n : Int) ≤ (q : Int)) = false := decide_eq_false (by omega)
    have hst : l[q]!.st = 4 := Classical.byContradiction fun h => hno2 ⟨⟨by omega, by omega⟩, ⟨by omega, by omega⟩, h⟩
    rcases HRg.out.2.2 with rfl | ⟨b, off, rfl, hc⟩
    · simp at hql
    have hcq := hc q hql
    generalize l[q]! = y at hst hcq
    obtain ⟨st, lv, wr, nx⟩ := y
    dsimp only at hst
    subst hst
    have HCQ := Lib.hid hcq
    have qi : (q : Int) < (n : Int) := by omega
    have qi0 : (0 : Int) ≤ (q : Int) := by omega
    clear hno2 h1 h4 hb0 hc hcq
    go_enter Try.func46, Try.ntmps46
    go_wp2_with fail
    rw [HW0.out]
    refine HR.out.mono ?_
    rintro e w1 ⟨rfl, hb1⟩
    have BB1 := Lib.hid (BB.out.trans (hb1.mono BB.out.size))
    have B1 := Lib.hid (B0.out.below hb1 B0.out.lt)
    have d0 := B1.out.cell 0
    have d1 := B1.out.cell 1
    simp at d0 d1
    clear hb1 B0 HR HW0
    obtain ⟨c0, c1, c2, c3⟩ := at_below HCQ.out BB1.out
    go_wp2
    go_ret2
    exact ⟨rfl, BB1.out⟩
  · rw [decide_eq_false hRt] at HR
    clear hno hRt
    go_enter Try.func46, Try.ntmps46
    go_wp2_with fail
    rw [HW0.out]
    refine HR.out.mono ?_
    rintro e w1 ⟨rfl, hb1⟩
    have BB1 := Lib.hid (BB.out.trans (hb1.mono BB.out.size))
    have B1 := Lib.hid (B0.out.below hb1 B0.out.lt)
    have d0 := B1.out.cell 0
    have d1 := B1.out.cell 1
    simp at d0 d1
    clear hb1 B0 HR HW0
    go_wp2
    go_ret2
    exact ⟨rfl, BB1.out⟩
end Go.Proofs.Ytoakgogngcmneaa
