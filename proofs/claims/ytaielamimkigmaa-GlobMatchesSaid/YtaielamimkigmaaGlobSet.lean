/-
  The program's sets of bytes.
-/
import Derived.Test.YtaielamimkigmaaGlobBits
import Derived.Test.YtaielamimkigmaaProg
import Derived.Test.YtaielamimkigmaaBlk
import Derived.Test.YtaielamimkigmaaLater
import Derived.Laws.BitsAllLaws
import Derived.RegionTactic
import Derived.ChangeAlike
import Derived.Lib.Hide
namespace Go.Proofs.Ytaielamimkigmaa
open Go.RowKit Go.ChangeShapes Globm

/-- a set as the program holds it -/
def sw (P : Nat → Bool) (j : Nat) : Value := .int .u64 (wj P j : Nat)
def sv (P : Nat → Bool) : Value := .agg #[sw P 0, sw P 1, sw P 2, sw P 3]
theorem sv_wf (P : Nat → Bool) (j : Nat) : (0 : Int) ≤ (wj P j : Nat) ∧ ((wj P j : Nat) : Int) < 18446744073709551616 := by have := wj_lt P j; omega

theorem nothing_any (i : Value) (w : World) : Calls Try.prog 34 #[i] w fun e w' => e = .returned (.bool false) ∧ w = w' := by
  go_enter Try.func34, Try.ntmps34
  go_wp2
  go_ret
  exact ⟨rfl, rfl⟩

set_option maxRecDepth 100000 in
theorem has_any (P : Nat → Bool) (x : Nat) (hx : x < 256) (w : World) : Calls Try.prog 44 #[sv P, .int .u8 x] w fun e w' => e = .returned (.bool (P x)) ∧ Below w.heap.size w w' := by
  obtain ⟨W, hW⟩ : ∃ W, w.alloc (.cells #[sw P 0, sw P 1, sw P 2, sw P 3] 73) = W := ⟨_, rfl⟩
  have B0 : Blk W w.heap.size 73 #[sw P 0, sw P 1, sw P 2, sw P 3] := by rw [← hW]; exact Blk.new w _ _
  have hc : W.cell? ⟨w.heap.size, x / 64, none⟩ = some (.int .u64 (wj P (x / 64) : Nat)) := by
    rw [B0.cell]
    have : x / 64 = 0 ∨ x / 64 = 1 ∨ x / 64 = 2 ∨ x / 64 = 3 := by omega
    rcases this with h | h | h | h <;> rw [h] <;> rfl
  have hd : x / 64 < 4 := by omega
  have HW := Lib.hid hW
  have hb := wj_has P x
  have hl := sv_wf P (x / 64)
  unfold sv
  go_enter Try.func44, Try.ntmps44
  go_wp2
  have hbit : (bits .and .u64 ((wj P (x / 64) : Nat) / 2 ^ (x % 64)) 1 == 1) = P x := by
    have hlt : wj P (x / 64) / 2 ^ (x % 64) < 18446744073709551616 := Nat.lt_of_le_of_lt (Nat.div_le_self _ _) (wj_lt P _)
    have e : (((wj P (x / 64) : Nat) : Int) / 2 ^ (x % 64)) = ((wj P (x / 64) / 2 ^ (x % 64) : Nat) : Int) := by rw [Int.natCast_ediv]; simp
    rw [e, show (1 : Int) = ((1 : Nat) : Int) from rfl, u64_and_nat _ _ hlt (by decide), Nat.and_one_is_mod, hb]
    cases P x <;> rfl
  rw [hbit]
  go_ret
  exact ⟨rfl, by rw [← HW.out]; exact (Below.refl _ w).alloc (Nat.le_refl _) _⟩

/-- the words of two sets, as the first is turned into both -/
def cw (P Q : Nat → Bool) (i j : Nat) : Value := .int .u64 ((if j < i then wj P j ||| wj Q j else wj P j : Nat) : Int)
def cws (P Q : Nat → Bool) (i : Nat) : Array Value := #[cw P Q i 0, cw P Q i 1, cw P Q i 2, cw P Q i 3]
theorem cws_put (P Q : Nat → Bool) (i : Nat) (h : i < 4) : (cws P Q i).setIfInBounds i (.int .u64 ((wj P i ||| wj Q i : Nat) : Int)) = cws P Q (i + 1) := by
  have : i = 0 ∨ i = 1 ∨ i = 2 ∨ i = 3 := by omega
  rcases this with rfl | rfl | rfl | rfl <;> simp [cws, cw]
theorem cws_get (P Q : Nat → Bool) (i : Nat) (h : i < 4) : (cws P Q i)[i]? = some (.int .u64 (wj P i : Nat)) := by
  have : i = 0 ∨ i = 1 ∨ i = 2 ∨ i = 3 := by omega
  rcases this with rfl | rfl | rfl | rfl <;> simp [cws, cw]
theorem cws_end (P Q : Nat → Bool) : cws P Q 4 = #[sw (fun x => P x || Q x) 0, sw (fun x => P x || Q x) 1, sw (fun x => P x || Q x) 2, sw (fun x => P x || Q x) 3] := by
  simp [cws, cw, sw, wj_or]
theorem Blk.put4 {w : World} {g : Nat} {t : TypeId} {x0 x1 x2 x3 : Value} (h : Blk w g t #[x0, x1, x2, x3]) (a b c d : Value) : Blk ((((w.setCell ⟨g, 0, none⟩ a).setCell ⟨g, 1, none⟩ b).setCell ⟨g, 2, none⟩ c).setCell ⟨g, 3, none⟩ d) g t #[a, b, c, d] := by
  have := (((h.put 0 a).put 1 b).put 2 c).put 3 d
  simpa using this
theorem below_put4 {B : Nat} {w0 w : World} {g : Nat} (h : Below B w0 w) (hg : B ≤ g) (a b c d : Value) : Below B w0 ((((w.setCell ⟨g, 0, none⟩ a).setCell ⟨g, 1, none⟩ b).setCell ⟨g, 2, none⟩ c).setCell ⟨g, 3, none⟩ d) :=
  (((h.setCell (p := ⟨g, 0, none⟩) hg _).setCell (p := ⟨g, 1, none⟩) hg _).setCell (p := ⟨g, 2, none⟩) hg _).setCell (p := ⟨g, 3, none⟩) hg _
theorem Blk.drew {w : World} {g : Nat} {t : TypeId} {cs : Array Value} (h : Blk w g t cs) : Blk w.drew g t cs := h.below (Below.drew (Below.refl (g + 1) w)) (by omega)
theorem sws_get (P : Nat → Bool) (i : Nat) (h : i < 4) : (#[sw P 0, sw P 1, sw P 2, sw P 3] : Array Value)[i]? = some (.int .u64 (wj P i : Nat)) := by
  have : i = 0 ∨ i = 1 ∨ i = 2 ∨ i = 3 := by omega
  rcases this with rfl | rfl | rfl | rfl <;> rfl

set_option maxRecDepth 100000 in
set_option maxHeartbeats 1000000 in
theorem with_any (P Q : Nat → Bool) (w : World) : Calls Try.prog 65 #[sv P, sv Q] w fun e w' => e = .returned (sv (fun x => P x || Q x)) ∧ Below w.heap.size w w' := by
  obtain ⟨W, hW⟩ : ∃ W, ((w.alloc (.cells #[sw P 0, sw P 1, sw P 2, sw P 3] 73)).alloc (.cells #[sw Q 0, sw Q 1, sw Q 2, sw Q 3] 73)).alloc (.cells #[.int .u64 0, .int .u64 0, .int .u64 0, .int .u64 0] 73) = W := ⟨_, rfl⟩
  have B0 : Hid (Blk W w.heap.size 73 (cws P Q 0)) := Lib.hid (by rw [← hW]; exact ((Blk.new w _ _).alloc _).alloc _)
  have B1 : Hid (Blk W (w.heap.size + 1) 73 #[sw Q 0, sw Q 1, sw Q 2, sw Q 3]) := Lib.hid (by
    have := (Blk.new (w.alloc (.cells #[sw P 0, sw P 1, sw P 2, sw P 3] 73)) 73 #[sw Q 0, sw Q 1, sw Q 2, sw Q 3]).alloc (.cells #[.int .u64 0, .int .u64 0, .int .u64 0, .int .u64 0] 73)
    rw [hW] at this
    simpa using this)
  have B2 : Hid (Blk W (w.heap.size + 1 + 1) 73 #[.int .u64 0, .int .u64 0, .int .u64 0, .int .u64 0]) := Lib.hid (by
    have := Blk.new ((w.alloc (.cells #[sw P 0, sw P 1, sw P 2, sw P 3] 73)).alloc (.cells #[sw Q 0, sw Q 1, sw Q 2, sw Q 3] 73)) 73 #[.int .u64 0, .int .u64 0, .int .u64 0, .int .u64 0]
    rw [hW] at this
    simpa using this)
  have BB : Hid (Below w.heap.size w W) := Lib.hid (by rw [← hW]; exact (((Below.refl _ w).alloc (Nat.le_refl _) _).alloc (by simp) _).alloc (by simp; omega) _)
  have HW := Lib.hid hW
  clear hW
  unfold sv
  go_enter Try.func65, Try.ntmps65
  go_wp2_with fail
  rw [HW.out]
  go_loopw [5, 6] (fun _ x wr => ∃ i : Nat, i ≤ 4 ∧ x = .int .i64 i ∧ Hid (Blk wr w.heap.size 73 (cws P Q i)) ∧ Hid (Blk wr (w.heap.size + 1) 73 #[sw Q 0, sw Q 1, sw Q 2, sw Q 3]) ∧ Hid (Blk wr (w.heap.size + 1 + 1) 73 #[.int .u64 0, .int .u64 0, .int .u64 0, .int .u64 0]) ∧ Hid (Below w.heap.size w wr)) (fun _ x _ => 4 - (intOf x).toNat)
  case atStart => exact ⟨0, by omega, rfl, B0, B1, B2, BB⟩
  case round =>
    obtain ⟨i, hi, rfl, b0, b1, b2, bb⟩ := hrel
    rcases Nat.lt_or_ge i 4 with hlt | hge
    · have c0 : wr.cell? ⟨w.heap.size, i, none⟩ = some (.int .u64 (wj P i : Nat)) := by rw [b0.out.cell, cws_get P Q i hlt]
      have c1 : wr.cell? ⟨w.heap.size + 1, i, none⟩ = some (.int .u64 (wj Q i : Nat)) := by rw [b1.out.cell, sws_get Q i hlt]
      have f0 := b0.out.frozen i
      have n0 := Lib.hid (cws_put P Q i hlt ▸ b0.out.put i (.int .u64 ((wj P i ||| wj Q i : Nat) : Int)))
      have n1 := Lib.hid (b1.out.far (p := ⟨w.heap.size, i, none⟩) (by simp) (.int .u64 ((wj P i ||| wj Q i : Nat) : Int)))
      have n2 := Lib.hid (b2.out.far (p := ⟨w.heap.size, i, none⟩) (by simp; omega) (.int .u64 ((wj P i ||| wj Q i : Nat) : Int)))
      have nb := Lib.hid (bb.out.setCell (p := ⟨w.heap.size, i, none⟩) (Nat.le_refl _) (.int .u64 ((wj P i ||| wj Q i : Nat) : Int)))
      have HX := Lib.hid (u64_or_nat (wj P i) (wj Q i) (wj_lt P i) (wj_lt Q i))
      go_wp2
      go_region
      rw [HX.out]
      go_wp2
      go_roundw
      case rel => exact ⟨i + 1, by omega, by go_num, Lib.hid n0.out.drew, Lib.hid n1.out.drew, Lib.hid n2.out.drew, Lib.hid nb.out.drew⟩
      case measure => simp [intOf]; omega
    · obtain rfl : i = 4 := by omega
      rw [cws_end P Q] at b0
      have d0 : wr.cell? ⟨w.heap.size, 0, none⟩ = some (sw (fun x => P x || Q x) 0) := b0.out.cell 0
      have d1 : wr.cell? ⟨w.heap.size, 1, none⟩ = some (sw (fun x => P x || Q x) 1) := b0.out.cell 1
      have d2 : wr.cell? ⟨w.heap.size, 2, none⟩ = some (sw (fun x => P x || Q x) 2) := b0.out.cell 2
      have d3 : wr.cell? ⟨w.heap.size, 3, none⟩ = some (sw (fun x => P x || Q x) 3) := b0.out.cell 3
      have e0 : wr.cell? ⟨w.heap.size + 1 + 1, 0, none⟩ = some (.int .u64 0) := b2.out.cell 0
      have e1 : wr.cell? ⟨w.heap.size + 1 + 1, 1, none⟩ = some (.int .u64 0) := b2.out.cell 1
      have e2 : wr.cell? ⟨w.heap.size + 1 + 1, 2, none⟩ = some (.int .u64 0) := b2.out.cell 2
      have e3 : wr.cell? ⟨w.heap.size + 1 + 1, 3, none⟩ = some (.int .u64 0) := b2.out.cell 3
      have f0 := b2.out.frozen 0
      have f1 := b2.out.frozen 1
      have f2 := b2.out.frozen 2
      have f3 := b2.out.frozen 3
      have K := b2.out.put4 (.int .u64 (wj (fun x => P x || Q x) 0 : Nat)) (.int .u64 (wj (fun x => P x || Q x) 1 : Nat)) (.int .u64 (wj (fun x => P x || Q x) 2 : Nat)) (.int .u64 (wj (fun x => P x || Q x) 3 : Nat))
      have KB := Lib.hid (below_put4 bb.out (show w.heap.size ≤ w.heap.size + 1 + 1 by omega) (.int .u64 (wj (fun x => P x || Q x) 0 : Nat)) (.int .u64 (wj (fun x => P x || Q x) 1 : Nat)) (.int .u64 (wj (fun x => P x || Q x) 2 : Nat)) (.int .u64 (wj (fun x => P x || Q x) 3 : Nat)))
      have k0 := K.cell 0
      have k1 := K.cell 1
      have k2 := K.cell 2
      have k3 := K.cell 3
      clear K
      unfold sw at d0 d1 d2 d3
      go_wp2
      exact bodyPost_ret (v := sv (fun x => P x || Q x)) (by simp [sv, sw, results, Try.results65, go_sem, k0, k1, k2, k3]) rfl ⟨rfl, KB.out⟩
end Go.Proofs.Ytaielamimkigmaa
