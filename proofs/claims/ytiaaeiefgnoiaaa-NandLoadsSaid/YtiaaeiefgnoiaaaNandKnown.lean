/-
  The fixed calls that each statement on chips ends with. Nothing of one statement alone stands here.
-/
import Derived.Test.YtiaaeiefgnoiaaaNandDo
namespace Go.Proofs.Ytiaaeiefgnoiaaa
open Go.RowKit Crcm Go.ChangeShapes

theorem gd8 : Gd 8 4 64 := ⟨by omega, by omega, by omega, by omega, .inl rfl⟩
def k0 : Ch := newC 8 4 64 []
def k1 (l : List Int) : Ch := prC k0 0 0 l
theorem k0_10 : prE k0 0 1 96 = 10 := rfl
theorem k0_0 : prE k0 0 0 96 = 0 := rfl
theorem k1_10 (l : List Int) : prE (k1 l) 0 0 96 = 10 := rfl
theorem k1_0 (l : List Int) : erE (k1 l) 0 = 0 := rfl
theorem k0_k : endE (fnd k0.fl k0.since).kind = 0 := rfl
theorem k1_k (l : List Int) : endE (fnd (k1 l).fl (k1 l).since).kind = 0 := rfl
theorem wr1 : wrap64 (0 + 1) = 1 := IntWalk.wrap64_in _ ⟨by omega, by omega⟩
theorem wr2 : wrap64 (1 + 1) = 2 := IntWalk.wrap64_in _ ⟨by omega, by omega⟩
theorem k2_w (l : List Int) : (erD (k1 l) 0).wear 0 = 1 := by show wrap64 (0 + 1) = 1; exact wr1
theorem k2_s (l : List Int) : (erD (k1 l) 0).strokes = 2 := by show wrap64 (wrap64 (0 + 1) + 1) = 2; rw [wr1, wr2]

set_option maxRecDepth 100000 in
set_option maxHeartbeats 2000000 in
theorem knownN_any (w : World) : Calls Try.prog 8 #[] w fun e w' => e = .returned (.bool true) ∧ Below w.heap.size w w' := by
  obtain ⟨i0, hi, hz0, hz1, hz2⟩ := info_parts Try.info8
  have HNew := Lib.hid (new_any 8 4 64 w gd8 [] none 0 0 Ri.nil rfl)
  unfold geoV at HNew
  go_enter Try.func8, Try.ntmps8
  go_wp2_with fail
  refine HNew.out.mono ?_
  rintro r w1 ⟨hB, ⟨-, o, rfl, hC, hF⟩ | ⟨⟨x, hx, -⟩, -⟩⟩
  · have HC := Lib.hid hC
    have HB := Lib.hid hB
    have HF := Lib.hid hF
    clear hC hB hF HNew
    go_wp2_with (at_make; refine wpList_make_blk _ rfl _ _ 27 rfl 5 i0 (.int .u8 0) 1 Try.underlying27 hi hz0 hz1 .i64 .i64 _ _ 96 rfl rfl rfl rfl (by rw [hz2]; omega) (by unfold maxLen; omega) ?_)
    intro w2 hBk hB2 hS2
    have HRB : Hid (RB w2 w1.heap.size (List.replicate 96 0)) := Lib.hid (by
      have h := hBk.out
      have e : madeCells #[Value.int .u8 0] 96 = ((List.replicate 96 (0 : Int)).map (Value.int .u8)).toArray := by
        apply Array.toList_inj.1
        rw [toList_madeCells_one, List.map_replicate]
      rw [e] at h
      exact h)
    have C2 := Lib.hid (HC.out.below hB2.out)
    have B2 := Lib.hid (HB.out.trans (hB2.out.mono HB.out.size))
    have hld := HC.out.old
    have hrx : RwX w2 (o.F 8) (some ⟨w1.heap.size, 0, none⟩) (List.replicate 96 0) := ⟨HRB.out.rw (fun y hy => by rw [(List.mem_replicate.1 hy).2]; unfold U8; omega) (by rw [List.length_replicate]; unfold maxLen; omega), fun b off s e _ g => by
      injection e with e
      injection e with e1 e2 e3
      subst e1
      have := hld _ g
      omega⟩
    have R2 := Lib.hid hrx
    clear hBk hB2 hS2 HRB hrx hld HC HB hi hz0 hz1 hz2
    generalize w1.heap.size = g at R2 ⊢
    generalize hl : List.replicate 96 (0 : Int) = l at R2
    have HLl : Hid (l.length = 64 + 32) := Lib.hid (by rw [← hl, List.length_replicate])
    clear hl
    have P1 := Lib.hid (program_no C2.out 0 1 (some ⟨g, 0, none⟩) 96 96 (by unfold maxLen; omega) (by show prE k0 0 1 96 ≠ 0; rw [k0_10]; decide))
    have e1 : prE (newC 8 4 64 []) 0 1 96 = 10 := k0_10
    rw [e1] at P1
    have P2 : Hid (Calls Try.prog 22 #[o.p, .int .i64 0, .int .i64 0, .slice (some ⟨g, 0, none⟩) 96 96] w2 fun e w' => e = .returned (.int .i64 0) ∧ ChAt w' (o.F 8) o (k1 l) ∧ Kp (o.F 8) w2 w') := Lib.hid (program_yes C2.out 0 0 (some ⟨g, 0, none⟩) 96 l R2.out HLl.out k0_0)
    clear e1
    go_wp2_with fail
    refine P1.out.mono ?_
    rintro r w' ⟨rfl, rfl⟩
    go_wp2_with fail
    refine P2.out.mono ?_
    rintro r w3 ⟨rfl, hc3, hk3⟩
    have C3 := Lib.hid hc3
    have B3 := Lib.hid (B2.out.trans (hk3.below (fun b hb => HF.out b hb) B2.out.size))
    have P3 := Lib.hid (program_no hc3 0 0 (some ⟨g, 0, none⟩) 96 96 (by unfold maxLen; omega) (by show prE (k1 l) 0 0 96 ≠ 0; rw [k1_10]; decide))
    rw [k1_10] at P3
    have E3 : Hid (Calls Try.prog 23 #[o.p, .int .i64 0] w3 fun e w' => e = .returned (.int .i64 0) ∧ ChAt w' (o.F 8) o (erD (k1 l) 0) ∧ Kp (o.F 8) w3 w') := Lib.hid (erase_yes hc3 0 (k1_0 l))
    clear hc3 hk3 C2 P1 P2 R2
    go_wp2_with fail
    refine P3.out.mono ?_
    rintro r w' ⟨rfl, rfl⟩
    go_wp2_with fail
    refine E3.out.mono ?_
    rintro r w4 ⟨rfl, hc4, hk4⟩
    have B4 := Lib.hid (B3.out.trans (hk4.below (fun b hb => HF.out b hb) B3.out.size))
    have W4 := Lib.hid (wear_any hc4 0 (by show 0 < 8; omega))
    have S4 := Lib.hid (strokes_any hc4)
    rw [k2_w] at W4
    rw [k2_s] at S4
    clear hc4 hk4
    go_wp2_with fail
    refine W4.out.mono ?_
    rintro r w' ⟨rfl, rfl⟩
    go_wp2_with fail
    refine S4.out.mono ?_
    rintro r w' ⟨rfl, rfl⟩
    go_wp2
    go_ret
    exact ⟨rfl, B4.out⟩
  · cases hx
end Go.Proofs.Ytiaaeiefgnoiaaa
