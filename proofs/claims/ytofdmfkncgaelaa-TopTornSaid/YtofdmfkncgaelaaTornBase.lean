/-
  The small calls of the statements through the layers of a chip and tags: a small chip's geometry, a page's bytes, torn bytes, fixed calls.
-/
import Derived.Test.YtofdmfkncgaelaaTagReadsW
import Derived.Test.YtofdmfkncgaelaaNandDo
import Derived.Test.YtofdmfkncgaelaaLayT
namespace Go.Proofs.Ytofdmfkncgaelaa
open Go.RowKit Crcm Tagm Go.ChangeShapes

/-- 64 bytes that begin so -/
def pgL (l : List Int) : List Int := l.take 64 ++ List.replicate (64 - l.length) 0
theorem pgL_len (l : List Int) : (pgL l).length = 64 := by unfold pgL; rw [List.length_append, List.length_take, List.length_replicate]; omega
theorem pgL_u8 {l : List Int} (h : ∀ x ∈ l, U8 x) : ∀ x ∈ pgL l, U8 x := fun x hx => by
  unfold pgL at hx
  rcases List.mem_append.1 hx with g | g
  · exact h x (List.mem_of_mem_take g)
  · rw [(List.mem_replicate.1 g).2]; unfold U8; omega
theorem pgL_splice (l : List Int) : splice (List.replicate 64 0) 0 (l.take 64) = pgL l := by
  unfold splice pgL
  rw [List.take_zero, List.nil_append, Nat.zero_add, List.length_take, List.drop_replicate]
  congr 2
  omega

set_option maxRecDepth 100000 in
theorem small_any (w : World) : Calls Try.prog 26 #[] w fun e w' => e = .returned (.agg #[.int .i64 16, .int .i64 8, .int .i64 64]) ∧ Below w.heap.size w w' := by
  go_enter Try.func26, Try.ntmps26
  go_wp2
  exact bodyPost_ret (v := .agg #[.int .i64 16, .int .i64 8, .int .i64 64]) (by simp [results, Try.results26, go_sem]) rfl ⟨rfl, (Below.refl _ _).alloc (Nat.le_refl _) _⟩

set_option maxRecDepth 100000 in
set_option maxHeartbeats 1000000 in
theorem page_any (a : Option Addr) (n c : Nat) (l : List Int) (w : World) (hr : Rw w a l) (hl : l.length = n) :
    Calls Try.prog 28 #[.slice a n c] w fun e w' => (∃ g, e = .returned (.slice (some ⟨g, 0, none⟩) 64 64) ∧ w.heap.size ≤ g ∧ Rw w' (some ⟨g, 0, none⟩) (pgL l)) ∧ Below w.heap.size w w' := by
  have hmk := mkn 64 (by omega)
  have hal := (Below.refl w.heap.size w).alloc (Nat.le_refl _) (.cells (Array.replicate 64 (Value.int .u8 0)) 5)
  obtain ⟨w5, k5, hrun5, hown5, hbel5⟩ := run_lay_any (own_mkn 64 (by omega) w) 0 64 64 n c a l (hr.below hal) hl (by omega)
  rw [pgL_splice] at hown5
  have b5 := hbel5 _ _ hal (Nat.le_refl _)
  obtain ⟨a4, cap4, e4, hrw4, hlen4, hcap4⟩ := Rw.of_own hown5 (pgL_u8 hr.1)
  injection e4 with f1 f2 f3
  subst f1 f3
  have HR := Lib.hid hrw4
  have HB := Lib.hid b5
  have hmk64 : ∀ W : World, (Instr.makeSlice 32 (.int .i64 64) (.int .i64 64)).run Try.prog W = .ok (.slice (some ⟨W.heap.size, 0, none⟩) 64 64) (W.alloc (.cells (Array.replicate 64 (Value.int .u8 0)) 5)) := fun W => hmk W
  clear hr hl hal hown5 hbel5 b5 hrw4 hlen4 hcap4 hmk
  go_enter Try.func28, Try.ntmps28
  go_wp2
  go_ret
  exact ⟨⟨_, rfl, Nat.le_refl _, HR.out⟩, HB.out⟩

set_option maxRecDepth 100000 in
set_option maxHeartbeats 1000000 in
theorem ttorn_any (a : Option Addr) (m c : Nat) (l : List Int) (w : World) (hr : Rw w a l) (hl : l.length = m) :
    Calls Try.prog 31 #[.slice a m c] w fun e w' => e = .returned (.slice (some ⟨w.heap.size, 0, none⟩) 96 96) ∧ Rw w' (some ⟨w.heap.size, 0, none⟩) (tornL 96 l) ∧ Below w.heap.size w w' := by
  obtain ⟨i0, hi, hz0, hz1, hz2⟩ := info_parts Try.info8
  have HR := Lib.hid hr
  have HL := Lib.hid hl
  clear hr hl
  go_enter Try.func31, Try.ntmps31
  go_wp2_with (at_make; refine wpList_make_blk _ rfl _ _ 32 rfl 5 i0 (.int .u8 0) 1 Try.underlying32 hi hz0 hz1 .i64 .i64 _ _ 96 rfl rfl rfl rfl (by rw [hz2]; omega) (by unfold maxLen; omega) ?_)
  intro w1 hBk hB hS
  have HF0 : Hid (∃ cs, Blk w1 w.heap.size 5 cs ∧ Fil 96 255 0 cs) := Lib.hid ⟨_, hBk.out, by
    refine ⟨size_madeCells _ _ |>.trans (by omega), fun j hj => absurd hj (Nat.not_lt_zero _), fun j hj => ⟨0, ?_⟩⟩
    exact made_get (by omega)⟩
  clear hBk hS hi hz0 hz1 hz2
  generalize hg : w.heap.size = g at HF0
  have HG := Lib.hid hg
  clear hg
  go_wp2_with fail
  go_loopw [4] (fun i wr => ∃ k : Nat, k ≤ 96 ∧ i = .int .i64 k ∧ Hid (∃ cs, Blk wr g 5 cs ∧ Fil 96 255 k cs) ∧ Hid (Below w.heap.size w wr)) (fun i _ => 96 - (intOf i).toNat)
  case atStart => exact ⟨0, Nat.zero_le _, rfl, HF0, hB⟩
  case round =>
    obtain ⟨k, hk, rfl, hF, hbel⟩ := hrel
    by_cases hlt : k < 96
    · obtain ⟨cs, hb, hf⟩ := hF.out
      obtain ⟨y, hy⟩ := hf.2.2 k hlt
      have c0 := (hb.cell k).trans hy
      have f0 := hb.frozen k
      have HB := Lib.hid hb
      have HFn := Lib.hid (hf.next hlt)
      have kl : (k : Int) < 96 := by omega
      clear hb hf hy hF
      go_wp2
      go_roundw
      case rel => exact ⟨k + 1, by omega, by go_num, Lib.hid ⟨_, HB.out.put k _, HFn.out⟩, Lib.hid (hbel.out.setCell (p := ⟨g, k, none⟩) (by show w.heap.size ≤ g; have := HG.out; omega) _)⟩
      case measure => simp [intOf]; omega
    · have hkn : k = 96 := by omega
      subst hkn
      obtain ⟨cs, hb, hf⟩ := hF.out
      obtain ⟨w2, kk, hrun, hrb, hbel2⟩ := run_torn wr g 96 m c a l (Fil.rb hb hf) (HR.out.below hbel.out) HL.out
      have HRB2 := Lib.hid (RB.rw hrb (tornL_u8 HR.out.1) (by rw [tornL_len]; unfold maxLen; omega))
      have HB2 := Lib.hid (hbel2 _ _ hbel.out (by have := HG.out; omega))
      clear hb hf hF hrb hbel2
      go_wp2
      go_ret
      exact ⟨by rw [HG.out]; rfl, by rw [HG.out]; exact HRB2.out, HB2.out⟩

set_option maxRecDepth 100000 in
set_option maxHeartbeats 1000000 in
theorem valid_any (a : Option Addr) (n c : Nat) (l : List Int) (w : World) (hr : Rw w a l) (hl : l.length = n) (hc : n ≤ c) :
    Calls Try.prog 30 #[.slice a n c] w fun e w' => e = .returned (.bool (decide (rdF l = 0))) ∧ Below w.heap.size w w' := by
  have H := Lib.hid (refread_any a n c l w hr hl hc)
  by_cases h : rdF l = 0
  · rw [decide_eq_true h]
    have HH := Lib.hid h
    clear h hr hl hc
    go_enter Try.func30, Try.ntmps30
    go_wp2_with fail
    refine H.out.mono ?_
    rintro r w1 ⟨hb, ⟨hf, _⟩ | ⟨_, n', _, _, _, A, c', rfl, _⟩⟩
    · exact absurd HH.out hf
    · have HB := Lib.hid (hb.alloc hb.size (.cells #[.int .i64 (tk n' l), .int .u32 (tp n' l), .int .u64 (ts n' l), .int .u64 (te n' l)] 68))
      clear hb
      unfold tg
      go_wp2
      go_ret
      exact ⟨rfl, HB.out⟩
  · rw [decide_eq_false h]
    have HH := Lib.hid h
    clear h hr hl hc
    go_enter Try.func30, Try.ntmps30
    go_wp2_with fail
    refine H.out.mono ?_
    rintro r w1 ⟨hb, ⟨hf, rfl⟩ | ⟨hf, _⟩⟩
    · have HB := Lib.hid (hb.alloc hb.size (.cells #[.int .i64 0, .int .u32 0, .int .u64 0, .int .u64 0] 68))
      obtain ⟨x, hx⟩ : ∃ x, rdF l = x := ⟨_, rfl⟩
      rw [hx] at hf
      have t : (x == 0) = false := by simpa using hf
      unfold Bad tg
      rw [hx]
      clear hb hf hx HH
      go_wp2
      go_ret
      exact ⟨rfl, HB.out⟩
    · exact absurd hf HH.out

end Go.Proofs.Ytofdmfkncgaelaa
