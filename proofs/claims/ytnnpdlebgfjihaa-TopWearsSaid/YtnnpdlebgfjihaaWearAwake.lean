/-
  The small calls of the statements through a manager: a small chip's geometry, torn bytes, fixed calls.
-/
import Derived.Test.YtnnpdlebgfjihaaTagWrite
import Derived.Test.YtnnpdlebgfjihaaNandDo
import Derived.Test.YtnnpdlebgfjihaaNandNew
import Derived.Test.YtnnpdlebgfjihaaLay
namespace Go.Proofs.Ytnnpdlebgfjihaa
open Go.RowKit Crcm Tagm Go.ChangeShapes

set_option maxRecDepth 100000 in
theorem small_any (w : World) : Calls Try.prog 25 #[] w fun e w' => e = .returned (.agg #[.int .i64 16, .int .i64 8, .int .i64 64]) ∧ Below w.heap.size w w' := by
  go_enter Try.func25, Try.ntmps25
  go_wp2
  exact bodyPost_ret (v := .agg #[.int .i64 16, .int .i64 8, .int .i64 64]) (by simp [results, Try.results25, go_sem]) rfl ⟨rfl, (Below.refl _ _).alloc (Nat.le_refl _) _⟩


set_option maxRecDepth 100000 in
set_option maxHeartbeats 1000000 in
theorem ttorn_any (a : Option Addr) (m c : Nat) (l : List Int) (w : World) (hr : Rw w a l) (hl : l.length = m) :
    Calls Try.prog 27 #[.slice a m c] w fun e w' => e = .returned (.slice (some ⟨w.heap.size, 0, none⟩) 96 96) ∧ Rw w' (some ⟨w.heap.size, 0, none⟩) (tornL 96 l) ∧ Below w.heap.size w w' := by
  obtain ⟨i0, hi, hz0, hz1, hz2⟩ := info_parts Try.info8
  have HR := Lib.hid hr
  have HL := Lib.hid hl
  clear hr hl
  go_enter Try.func27, Try.ntmps27
  go_wp2_with (at_make; refine wpList_make_blk _ rfl _ _ 39 rfl 5 i0 (.int .u8 0) 1 Try.underlying39 hi hz0 hz1 .i64 .i64 _ _ 96 rfl rfl rfl rfl (by rw [hz2]; omega) (by unfold maxLen; omega) ?_)
  intro w1 hBk hB hS
  have HF0 : Hid (∃ cs, Blk w1 w.heap.size 5 cs ∧ Fil 96 255 0 cs) := Lib.hid ⟨_, hBk.out, by
    refine ⟨size_madeCells _ _ |>.trans (by omega), fun j hj => absurd hj (Nat.not_lt_zero _), fun j hj => ⟨0, ?_⟩⟩
    exact made_get (by omega)⟩
  clear hBk hS hi hz0 hz1 hz2
  generalize hg : w.heap.size = g at HF0
  have HG := Lib.hid hg
  clear hg
  go_wp2_with fail
  go_loopw [4] (fun i wr => ∃ k : Nat, k ≤ 96 ∧ i = .int .i64 k ∧ Hid (∃ cs, Blk wr g 5 cs ∧ Fil 96 255 k cs) ∧ Hid (Below w.heap.size w wr)) (fun i _ => 96 - (intOf i).toNat)
  case atStart => exact ⟨0, Nat.zero_le _, rfl, HF0, hB⟩
  case round =>
    obtain ⟨k, hk, rfl, hF, hbel⟩ := hrel
    by_cases hlt : k < 96
    · obtain ⟨cs, hb, hf⟩ := hF.out
      obtain ⟨y, hy⟩ := hf.2.2 k hlt
      have c0 := (hb.cell k).trans hy
      have f0 := hb.frozen k
      have HB := Lib.hid hb
      have HFn := Lib.hid (hf.next hlt)
      have kl : (k : Int) < 96 := by omega
      clear hb hf hy hF
      go_wp2
      go_roundw
      case rel => exact ⟨k + 1, by omega, by go_num, Lib.hid ⟨_, HB.out.put k _, HFn.out⟩, Lib.hid (hbel.out.setCell (p := ⟨g, k, none⟩) (by show w.heap.size ≤ g; have := HG.out; omega) _)⟩
      case measure => simp [intOf]; omega
    · have hkn : k = 96 := by omega
      subst hkn
      obtain ⟨cs, hb, hf⟩ := hF.out
      obtain ⟨w2, kk, hrun, hrb, hbel2⟩ := run_torn wr g 96 m c a l (Fil.rb hb hf) (HR.out.below hbel.out) HL.out
      have HRB2 := Lib.hid (RB.rw hrb (tornL_u8 HR.out.1) (by rw [tornL_len]; unfold maxLen; omega))
      have HB2 := Lib.hid (hbel2 _ _ hbel.out (by have := HG.out; omega))
      clear hb hf hF hrb hbel2
      go_wp2
      go_ret
      exact ⟨by rw [HG.out]; rfl, by rw [HG.out]; exact HRB2.out, HB2.out⟩


/-- bytes 0 -/
def zz (n : Nat) : List Int := List.replicate n 0
theorem zz_U8 (n : Nat) : ∀ b ∈ zz n, U8 b := by intro b hb; unfold zz at hb; rw [List.mem_replicate] at hb; rw [hb.2]; exact ⟨by decide, by decide⟩
theorem zz_len (n : Nat) : (zz n).length = n := by simp [zz]
/-- what is written lies in new memory -/
theorem write_new (k p s e : Int) (a : Option Addr) (cap m : Nat) (z : List Int) (w : World) (h : Rt k p s e) (hs : Sz m) (hz : Rw w a z) (hm : z.length = m) :
    Calls Try.prog 68 #[tg k p s e, .slice a m cap] w fun r w' => (∃ A c, r = .returned (.tuple #[.slice A (m + 32) c, .int .i64 0]) ∧ m + 32 ≤ c ∧ Rw w' A (pg k p s e z) ∧ ∀ b off s, A = some ⟨b, off, s⟩ → w.heap.size ≤ b) ∧ Below w.heap.size w w' := by
  subst hm
  refine (write_ok k p s e a cap z w h hs hz).mono ?_
  rintro r w' ⟨v, rfl, hown, hb⟩
  obtain ⟨A, c, rfl, hr, hl, hc⟩ := Rw.of_own hown (pg_U8 _ _ _ _ _ hz.1)
  refine ⟨⟨A, c, rfl, hc, hr, fun b off s e => ?_⟩, hb⟩
  rcases hown.2 with ⟨h0, _⟩ | ⟨g, cap, cur, h0, hg, _⟩
  · injection h0 with e1; rw [e1] at e; cases e
  · injection h0 with e1
    rw [e1] at e
    injection e with e
    injection e with e
    omega
theorem gd16 : Gd 16 8 64 := ⟨by omega, by omega, by omega, by omega, .inl rfl⟩
theorem rt1 : Rt 1 1 1 1 := by decide


set_option maxRecDepth 100000 in
set_option maxHeartbeats 2000000 in
theorem awake_any (w : World) : Calls Try.prog 29 #[] w fun e w' => e = .returned (.bool true) ∧ Below w.heap.size w w' := by
  have HSm := Lib.hid (fun w => small_any w)
  have HNew := Lib.hid (fun w => new_any 16 8 64 w gd16 [] none 0 0 Ri.nil rfl)
  unfold geoV at HNew
  have hmk := mkn 64 (by omega)
  have hmk64 : ∀ W : World, (Instr.makeSlice 39 (.int .i64 64) (.int .i64 64)).run Try.prog W = .ok (.slice (some ⟨W.heap.size, 0, none⟩) 64 64) (W.alloc (.cells (Array.replicate 64 (Value.int .u8 0)) 5)) := fun W => hmk W
  have HWr := Lib.hid (fun W a (hz : Rw W a (zz 64)) => write_new 1 1 1 1 a 64 64 (zz 64) W rt1 (by decide) hz (zz_len 64))
  unfold tg at HWr
  clear hmk
  go_enter Try.func29, Try.ntmps29
  go_wp2_with fail
  refine (HSm.out _).mono ?_
  rintro e w0 ⟨rfl, hb0⟩
  go_wp2_with fail
  refine (HNew.out _).mono ?_
  rintro r w1 ⟨hB, ⟨-, o, rfl, hC, hF⟩ | ⟨⟨x, hx, -⟩, -⟩⟩
  · have HB1 := Lib.hid (hb0.trans (hB.mono hb0.size))
    have hal := (Below.refl w1.heap.size w1).alloc (Nat.le_refl _) (.cells (Array.replicate 64 (Value.int .u8 0)) 5)
    have hrz : Rw (w1.alloc (.cells (Array.replicate 64 (Value.int .u8 0)) 5)) (some ⟨w1.heap.size, 0, none⟩) (zz 64) := by
      obtain ⟨a, c, e, h, -⟩ := Rw.of_own (zs := zz 64) (own_mkn 64 (by omega) w1) (zz_U8 64)
      injection e with e1
      rw [e1]; exact h
    have HRZ := Lib.hid hrz
    have HC := Lib.hid (hC.below hal)
    have HF := Lib.hid (fun b hb => Nat.le_trans hb0.size (hF b hb))
    have HB2 := Lib.hid (HB1.out.alloc HB1.out.size (.cells (Array.replicate 64 (Value.int .u8 0)) 5))
    clear hb0 hB hC hF hal hrz HSm HNew
    go_wp2_with fail
    refine (HWr.out _ _ HRZ.out).mono ?_
    rintro r w3 ⟨⟨A, c, rfl, hnc, hr, hA⟩, hb3⟩
    have C3 := Lib.hid (HC.out.below hb3)
    have B3 := Lib.hid (HB2.out.trans (hb3.mono HB2.out.size))
    have hrx : RwX w3 (o.F 16) A (pg 1 1 1 1 (zz 64)) := ⟨hr, fun b off s e _ g => by
      have h1 := HC.out.old b g
      have h2 := hA b off s e
      omega⟩
    have P2 : Hid (Calls Try.prog 38 #[o.p, .int .i64 0, .int .i64 0, .slice A 96 c] w3 fun e w' => e = .returned (.int .i64 0) ∧ ChAt w' (o.F 16) o (prC (newC 16 8 64 []) 0 0 (pg 1 1 1 1 (zz 64))) ∧ Kp (o.F 16) w3 w') := Lib.hid (program_yes C3.out 0 0 A c (pg 1 1 1 1 (zz 64)) hrx (pg_length _ _ _ _ _) rfl)
    clear hrx hr hA hb3 HWr
    go_wp2_with fail
    refine P2.out.mono ?_
    rintro r w4 ⟨rfl, hc4, hk4⟩
    have B4 := Lib.hid (B3.out.trans (hk4.below (fun b hb => HF.out b hb) B3.out.size))
    clear hc4 hk4
    go_wp2
    go_ret
    exact ⟨rfl, B4.out⟩
  · cases hx

end Go.Proofs.Ytnnpdlebgfjihaa
