/-
  The program's sets of bytes: the others, a span.
-/
import Derived.Test.YtaielamimkigmaaGlobSet
namespace Go.Proofs.Ytaielamimkigmaa
open Go.RowKit Go.ChangeShapes Globm

/-- the words of a set, as it is turned round -/
def ow (P : Nat → Bool) (i j : Nat) : Value := .int .u64 ((if j < i then 18446744073709551615 - wj P j else wj P j : Nat) : Int)
def ows (P : Nat → Bool) (i : Nat) : Array Value := #[ow P i 0, ow P i 1, ow P i 2, ow P i 3]
theorem ows_put (P : Nat → Bool) (i : Nat) (h : i < 4) : (ows P i).setIfInBounds i (.int .u64 ((18446744073709551615 - wj P i : Nat) : Int)) = ows P (i + 1) := by
  have : i = 0 ∨ i = 1 ∨ i = 2 ∨ i = 3 := by omega
  rcases this with rfl | rfl | rfl | rfl <;> simp [ows, ow]
theorem ows_get (P : Nat → Bool) (i : Nat) (h : i < 4) : (ows P i)[i]? = some (.int .u64 (wj P i : Nat)) := by
  have : i = 0 ∨ i = 1 ∨ i = 2 ∨ i = 3 := by omega
  rcases this with rfl | rfl | rfl | rfl <;> simp [ows, ow]
theorem ows_end (P : Nat → Bool) : ows P 4 = #[sw (fun x => !P x) 0, sw (fun x => !P x) 1, sw (fun x => !P x) 2, sw (fun x => !P x) 3] := by
  simp [ows, ow, sw, wj_not]

theorem all_xor {a : Nat} (h : a < 18446744073709551616) : bits .xor .u64 (if IntKind.u64.signed = true then -1 else IntKind.u64.max) (a : Int) = ((18446744073709551615 - a : Nat) : Int) := by
  have e : (if IntKind.u64.signed = true then -1 else IntKind.u64.max) = ((18446744073709551615 : Nat) : Int) := by decide
  rw [e, u64_xor_nat _ _ (by decide) h]
  congr 1
  apply Nat.eq_of_testBit_eq
  intro i
  have k := Nat.testBit_two_pow_sub_succ (x := a) (n := 64) h i
  rw [show 2 ^ 64 - (a + 1) = 18446744073709551615 - a by omega] at k
  rw [k, Nat.testBit_xor, show 18446744073709551615 = 2 ^ 64 - 1 by decide, Nat.testBit_two_pow_sub_one]
  by_cases hi : i < 64
  · simp [hi]
  · have : a.testBit i = false := Nat.testBit_lt_two_pow (Nat.lt_of_lt_of_le h (Nat.pow_le_pow_right (n := 2) (by decide) (by omega : 64 ≤ i)))
    simp [hi, this]

set_option maxRecDepth 100000 in
set_option maxHeartbeats 1000000 in
theorem others_any (P : Nat → Bool) (w : World) : Calls Try.prog 66 #[sv P] w fun e w' => e = .returned (sv (fun x => !P x)) ∧ Below w.heap.size w w' := by
  obtain ⟨W, hW⟩ : ∃ W, (w.alloc (.cells #[sw P 0, sw P 1, sw P 2, sw P 3] 73)).alloc (.cells #[.int .u64 0, .int .u64 0, .int .u64 0, .int .u64 0] 73) = W := ⟨_, rfl⟩
  have B0 : Hid (Blk W w.heap.size 73 (ows P 0)) := Lib.hid (by rw [← hW]; exact (Blk.new w _ _).alloc _)
  have B2 : Hid (Blk W (w.heap.size + 1) 73 #[.int .u64 0, .int .u64 0, .int .u64 0, .int .u64 0]) := Lib.hid (by
    have := Blk.new (w.alloc (.cells #[sw P 0, sw P 1, sw P 2, sw P 3] 73)) 73 #[.int .u64 0, .int .u64 0, .int .u64 0, .int .u64 0]
    rw [hW] at this
    simpa using this)
  have BB : Hid (Below w.heap.size w W) := Lib.hid (by rw [← hW]; exact ((Below.refl _ w).alloc (Nat.le_refl _) _).alloc (by simp) _)
  have HW := Lib.hid hW
  clear hW
  unfold sv
  go_enter Try.func66, Try.ntmps66
  go_wp2_with fail
  rw [HW.out]
  go_loopw [3, 4] (fun _ x wr => ∃ i : Nat, i ≤ 4 ∧ x = .int .i64 i ∧ Hid (Blk wr w.heap.size 73 (ows P i)) ∧ Hid (Blk wr (w.heap.size + 1) 73 #[.int .u64 0, .int .u64 0, .int .u64 0, .int .u64 0]) ∧ Hid (Below w.heap.size w wr)) (fun _ x _ => 4 - (intOf x).toNat)
  case atStart => exact ⟨0, by omega, rfl, B0, B2, BB⟩
  case round =>
    obtain ⟨i, hi, rfl, b0, b2, bb⟩ := hrel
    rcases Nat.lt_or_ge i 4 with hlt | hge
    · have c0 : wr.cell? ⟨w.heap.size, i, none⟩ = some (.int .u64 (wj P i : Nat)) := by rw [b0.out.cell, ows_get P i hlt]
      have f0 := b0.out.frozen i
      have n0 := Lib.hid (ows_put P i hlt ▸ b0.out.put i (.int .u64 ((18446744073709551615 - wj P i : Nat) : Int)))
      have n2 := Lib.hid (b2.out.far (p := ⟨w.heap.size, i, none⟩) (by simp) (.int .u64 ((18446744073709551615 - wj P i : Nat) : Int)))
      have nb := Lib.hid (bb.out.setCell (p := ⟨w.heap.size, i, none⟩) (Nat.le_refl _) (.int .u64 ((18446744073709551615 - wj P i : Nat) : Int)))
      have HX := Lib.hid (all_xor (wj_lt P i))
      go_wp2
      rw [HX.out]
      go_roundw
      case rel => exact ⟨i + 1, by omega, by go_num, n0, n2, nb⟩
      case measure => simp [intOf]; omega
    · obtain rfl : i = 4 := by omega
      rw [ows_end P] at b0
      have d0 : wr.cell? ⟨w.heap.size, 0, none⟩ = some (sw (fun x => !P x) 0) := b0.out.cell 0
      have d1 : wr.cell? ⟨w.heap.size, 1, none⟩ = some (sw (fun x => !P x) 1) := b0.out.cell 1
      have d2 : wr.cell? ⟨w.heap.size, 2, none⟩ = some (sw (fun x => !P x) 2) := b0.out.cell 2
      have d3 : wr.cell? ⟨w.heap.size, 3, none⟩ = some (sw (fun x => !P x) 3) := b0.out.cell 3
      have e0 : wr.cell? ⟨w.heap.size + 1, 0, none⟩ = some (.int .u64 0) := b2.out.cell 0
      have e1 : wr.cell? ⟨w.heap.size + 1, 1, none⟩ = some (.int .u64 0) := b2.out.cell 1
      have e2 : wr.cell? ⟨w.heap.size + 1, 2, none⟩ = some (.int .u64 0) := b2.out.cell 2
      have e3 : wr.cell? ⟨w.heap.size + 1, 3, none⟩ = some (.int .u64 0) := b2.out.cell 3
      have f0 := b2.out.frozen 0
      have f1 := b2.out.frozen 1
      have f2 := b2.out.frozen 2
      have f3 := b2.out.frozen 3
      have K := b2.out.put4 (.int .u64 (wj (fun x => !P x) 0 : Nat)) (.int .u64 (wj (fun x => !P x) 1 : Nat)) (.int .u64 (wj (fun x => !P x) 2 : Nat)) (.int .u64 (wj (fun x => !P x) 3 : Nat))
      have KB := Lib.hid (below_put4 bb.out (show w.heap.size ≤ w.heap.size + 1 by omega) (.int .u64 (wj (fun x => !P x) 0 : Nat)) (.int .u64 (wj (fun x => !P x) 1 : Nat)) (.int .u64 (wj (fun x => !P x) 2 : Nat)) (.int .u64 (wj (fun x => !P x) 3 : Nat)))
      have k0 := K.cell 0
      have k1 := K.cell 1
      have k2 := K.cell 2
      have k3 := K.cell 3
      clear K
      unfold sw at d0 d1 d2 d3
      go_wp2
      exact bodyPost_ret (v := sv (fun x => !P x)) (by simp [sv, sw, results, Try.results66, go_sem, k0, k1, k2, k3]) rfl ⟨rfl, KB.out⟩

/-- the words of a set -/
def ws (P : Nat → Bool) : Array Value := #[sw P 0, sw P 1, sw P 2, sw P 3]
theorem ws_put (P : Nat → Bool) (x : Nat) (h : x < 256) : (ws P).setIfInBounds (x / 64) (.int .u64 ((wj P (x / 64) ||| 2 ^ (x % 64) : Nat) : Int)) = ws (fun y => P y || y == x) := by
  have e := wj_add P x
  have n := fun j h => wj_else P x j h
  have : x / 64 = 0 ∨ x / 64 = 1 ∨ x / 64 = 2 ∨ x / 64 = 3 := by omega
  rcases this with h | h | h | h <;> rw [h] at e n ⊢ <;> rw [e] <;> simp [ws, sw, n]
theorem ws_get (P : Nat → Bool) (i : Nat) (h : i < 4) : (ws P)[i]? = some (.int .u64 (wj P i : Nat)) := sws_get P i h
/-- the set of the bytes from one up to another -/
def spn (a b : Nat) : Nat → Bool := fun y => decide (a ≤ y ∧ y ≤ b)
def spx (a x : Nat) : Nat → Bool := fun y => decide (a ≤ y ∧ y < x)
theorem ws_ext {P Q : Nat → Bool} (h : ∀ x, P x = Q x) : ws P = ws Q := by rw [funext h]
theorem spx_none (a : Nat) : ws (spx a a) = #[.int .u64 0, .int .u64 0, .int .u64 0, .int .u64 0] := by
  have : ∀ x, x < 256 → spx a a x = false := fun x _ => decide_eq_false (by omega)
  obtain ⟨h0, h1, h2, h3⟩ := wj_empty.2 this
  simp [ws, sw, h0, h1, h2, h3]
theorem spx_next (a x : Nat) (h : a ≤ x) : (fun y => spx a x y || y == x) = spx a (x + 1) := by
  funext y
  rw [Bool.eq_iff_iff]
  simp [spx]
  omega

set_option maxRecDepth 100000 in
set_option maxHeartbeats 1000000 in
theorem span_any (a b : Nat) (ha : a < 256) (hb : b < 256) (w : World) : Calls Try.prog 58 #[.int .u8 a, .int .u8 b] w fun e w' => e = .returned (sv (spn a b)) ∧ Below w.heap.size w w' := by
  obtain ⟨W, hW⟩ : ∃ W, (w.alloc (.cells #[.int .u64 0, .int .u64 0, .int .u64 0, .int .u64 0] 73)).alloc (.cells #[.int .u64 0, .int .u64 0, .int .u64 0, .int .u64 0] 73) = W := ⟨_, rfl⟩
  have B2 : Hid (Blk W w.heap.size 73 #[.int .u64 0, .int .u64 0, .int .u64 0, .int .u64 0]) := Lib.hid (by rw [← hW]; exact (Blk.new w _ _).alloc _)
  have B0 : Hid (Blk W (w.heap.size + 1) 73 (ws (spx a a))) := Lib.hid (by
    have := Blk.new (w.alloc (.cells #[.int .u64 0, .int .u64 0, .int .u64 0, .int .u64 0] 73)) 73 #[.int .u64 0, .int .u64 0, .int .u64 0, .int .u64 0]
    rw [hW] at this
    rw [spx_none]
    simpa using this)
  have BB : Hid (Below w.heap.size w W) := Lib.hid (by rw [← hW]; exact ((Below.refl _ w).alloc (Nat.le_refl _) _).alloc (by simp) _)
  have HW := Lib.hid hW
  clear hW
  go_enter Try.func58, Try.ntmps58
  go_wp2_with fail
  rw [HW.out]
  go_loopw [6] (fun v wr => ∃ x : Nat, a ≤ x ∧ (x = a ∨ x ≤ b + 1) ∧ v = .int .i64 x ∧ Hid (Blk wr (w.heap.size + 1) 73 (ws (spx a x))) ∧ Hid (Blk wr w.heap.size 73 #[.int .u64 0, .int .u64 0, .int .u64 0, .int .u64 0]) ∧ Hid (Below w.heap.size w wr)) (fun v _ => b + 1 - (intOf v).toNat)
  case atStart => exact ⟨a, Nat.le_refl _, .inl rfl, rfl, B0, B2, BB⟩
  case round =>
    obtain ⟨x, hx, hx2, rfl, b0, b2, bb⟩ := hrel
    rcases Nat.lt_or_ge b x with hgt | hle
    · have he : ws (spx a x) = ws (spn a b) := ws_ext (fun y => by unfold spx spn; by_cases h : a ≤ y ∧ y < x <;> simp [h] <;> omega)
      rw [he] at b0
      have d0 : wr.cell? ⟨w.heap.size + 1, 0, none⟩ = some (sw (spn a b) 0) := b0.out.cell 0
      have d1 : wr.cell? ⟨w.heap.size + 1, 1, none⟩ = some (sw (spn a b) 1) := b0.out.cell 1
      have d2 : wr.cell? ⟨w.heap.size + 1, 2, none⟩ = some (sw (spn a b) 2) := b0.out.cell 2
      have d3 : wr.cell? ⟨w.heap.size + 1, 3, none⟩ = some (sw (spn a b) 3) := b0.out.cell 3
      have e0 : wr.cell? ⟨w.heap.size, 0, none⟩ = some (.int .u64 0) := b2.out.cell 0
      have e1 : wr.cell? ⟨w.heap.size, 1, none⟩ = some (.int .u64 0) := b2.out.cell 1
      have e2 : wr.cell? ⟨w.heap.size, 2, none⟩ = some (.int .u64 0) := b2.out.cell 2
      have e3 : wr.cell? ⟨w.heap.size, 3, none⟩ = some (.int .u64 0) := b2.out.cell 3
      have f0 := b2.out.frozen 0
      have f1 := b2.out.frozen 1
      have f2 := b2.out.frozen 2
      have f3 := b2.out.frozen 3
      have K := b2.out.put4 (.int .u64 (wj (spn a b) 0 : Nat)) (.int .u64 (wj (spn a b) 1 : Nat)) (.int .u64 (wj (spn a b) 2 : Nat)) (.int .u64 (wj (spn a b) 3 : Nat))
      have KB := Lib.hid (below_put4 bb.out (Nat.le_refl w.heap.size) (.int .u64 (wj (spn a b) 0 : Nat)) (.int .u64 (wj (spn a b) 1 : Nat)) (.int .u64 (wj (spn a b) 2 : Nat)) (.int .u64 (wj (spn a b) 3 : Nat)))
      have k0 := K.cell 0
      have k1 := K.cell 1
      have k2 := K.cell 2
      have k3 := K.cell 3
      clear K
      unfold sw at d0 d1 d2 d3
      go_wp2
      exact bodyPost_ret (v := sv (spn a b)) (by simp [sv, sw, results, Try.results58, go_sem, k0, k1, k2, k3]) rfl ⟨rfl, KB.out⟩
    · have hx4 : x / 64 < 4 := by omega
      have c0 : wr.cell? ⟨w.heap.size + 1, x / 64, none⟩ = some (.int .u64 (wj (spx a x) (x / 64) : Nat)) := by rw [b0.out.cell, ws_get _ _ hx4]
      have f0 := b0.out.frozen (x / 64)
      have hp := ws_put (spx a x) x (by omega)
      rw [spx_next a x hx] at hp
      have n0 := Lib.hid (hp ▸ b0.out.put (x / 64) (.int .u64 ((wj (spx a x) (x / 64) ||| 2 ^ (x % 64) : Nat) : Int)))
      have n2 := Lib.hid (b2.out.far (p := ⟨w.heap.size + 1, x / 64, none⟩) (by simp) (.int .u64 ((wj (spx a x) (x / 64) ||| 2 ^ (x % 64) : Nat) : Int)))
      have nb := Lib.hid (bb.out.setCell (p := ⟨w.heap.size + 1, x / 64, none⟩) (by simp) (.int .u64 ((wj (spx a x) (x / 64) ||| 2 ^ (x % 64) : Nat) : Int)))
      have HX : Hid (bits .or .u64 (wj (spx a x) (x / 64) : Nat) (IntKind.u64.wrap (2 ^ (x % 64))) = ((wj (spx a x) (x / 64) ||| 2 ^ (x % 64) : Nat) : Int)) := Lib.hid (by
        have hp : 2 ^ (x % 64) < 18446744073709551616 := (Nat.pow_lt_pow_iff_right (by decide)).2 (by omega : x % 64 < 64)
        have hp2 : (2 : Int) ^ (x % 64) = ((2 ^ (x % 64) : Nat) : Int) := by simp
        rw [hp2]
        generalize 2 ^ (x % 64) = p at hp ⊢
        rw [show IntKind.u64.wrap (p : Int) = (p : Int) from (show (p : Int) % 18446744073709551616 = p by omega), u64_or_nat _ _ (wj_lt _ _) hp])
      clear hp
      go_wp2
      go_region
      rw [HX.out]
      go_wp2
      go_roundw
      case rel => exact ⟨x + 1, by omega, .inr (by omega), by go_num, Lib.hid n0.out.drew, Lib.hid n2.out.drew, Lib.hid nb.out.drew⟩
      case measure => simp [intOf]; omega
end Go.Proofs.Ytaielamimkigmaa
