/-
  The slot of a name in a directory that is right: the program's answer. Nothing of one statement alone stands here.
-/
import Derived.Test.YtbgimehbencdgaaDirFind
namespace Go.Proofs.Ytbgimehbencdgaa
open Go.RowKit Crcm Tagm Dirm Go.ChangeShapes

theorem ck_range (l : List Int) : ck l = 0 ∨ ck l = 50 := by
  have h : ∀ (f k : Nat) (e : Bool), ckF l f k e = 0 ∨ ckF l f k e = 50 := by
    intro f
    induction f with
    | zero => intro k e; cases e <;> simp [ckF]
    | succ f ih =>
      intro k e
      rw [ckF]
      split
      · exact .inr rfl
      · exact ih _ _
  unfold ck
  split
  · exact h _ _ _
  · exact .inr rfl
/-- where a name stands, and the error beside it -/
def wk (l : List Int) (s : ByteArray) : Int := if ck l = 0 then (if (fd l s).1 < 0 then 0 else (fd l s).1) else 0
def wkE (l : List Int) (s : ByteArray) : Int := if ck l = 0 then (if (fd l s).1 < 0 then 60 else 0) else ck l

set_option maxRecDepth 100000 in
set_option maxHeartbeats 1000000 in
theorem where_any (l : List Int) (s : ByteArray) (a : Option Addr) (m c : Nat) (w : World) (hr : Rw w a l) (hl : l.length = m) (hmc : m ≤ c) (c1 : c ≤ 9223372036854775807) (m2 : m < 140737488351232) :
    Calls Try.prog 32 #[.slice a m c, .string s] w fun e w' => e = .returned (.tuple #[.int .i64 (wk l s), .int .i64 (wkE l s)]) ∧ Below w.heap.size w w' := by
  have HC := Lib.hid (fun W hb => check_any l a c m W hb hl hmc c1 m2)
  have HF := Lib.hid (fun W hb => find_any l s a m c W hb hl hmc c1)
  have HR := Lib.hid hr
  by_cases h : ck l = 0
  · by_cases h2 : (fd l s).1 < 0
    · have e1 : wk l s = 0 := by unfold wk; rw [if_pos h, if_pos h2]
      have e2 : wkE l s = 60 := by unfold wkE; rw [if_pos h, if_pos h2]
      rw [e1, e2]
      rw [h] at HC
      obtain ⟨x, hx⟩ : ∃ x, (fd l s).1 = x := ⟨_, rfl⟩
      rw [hx] at HF h2
      clear hr hl hmc h e1 e2 hx
      go_enter Try.func32, Try.ntmps32
      go_wp2_with fail
      refine (HC.out _ HR.out).mono ?_
      rintro e w1 ⟨rfl, hb1⟩
      go_wp2_with fail
      refine (HF.out _ (HR.out.below hb1)).mono ?_
      rintro e w2 ⟨rfl, hb2⟩
      go_wp2
      go_ret2
      exact ⟨rfl, hb1.trans (hb2.mono hb1.size)⟩
    · have e1 : wk l s = (fd l s).1 := by unfold wk; rw [if_pos h, if_neg h2]
      have e2 : wkE l s = 0 := by unfold wkE; rw [if_pos h, if_neg h2]
      rw [e1, e2]
      rw [h] at HC
      obtain ⟨x, hx⟩ : ∃ x, (fd l s).1 = x := ⟨_, rfl⟩
      rw [hx] at HF h2 ⊢
      have h3 : 0 ≤ x := by omega
      clear hr hl hmc h e1 e2 hx h2
      go_enter Try.func32, Try.ntmps32
      go_wp2_with fail
      refine (HC.out _ HR.out).mono ?_
      rintro e w1 ⟨rfl, hb1⟩
      go_wp2_with fail
      refine (HF.out _ (HR.out.below hb1)).mono ?_
      rintro e w2 ⟨rfl, hb2⟩
      go_wp2
      go_ret2
      exact ⟨rfl, hb1.trans (hb2.mono hb1.size)⟩
  · have h5 := (ck_range l).resolve_left h
    have e1 : wk l s = 0 := by unfold wk; rw [if_neg h]
    have e2 : wkE l s = 50 := by unfold wkE; rw [if_neg h, h5]
    rw [e1, e2]
    rw [h5] at HC
    clear hr hl hmc h h5 e1 e2 HF
    go_enter Try.func32, Try.ntmps32
    go_wp2_with fail
    refine (HC.out _ HR.out).mono ?_
    rintro e w1 ⟨rfl, hb1⟩
    go_wp2
    go_ret2
    exact ⟨rfl, hb1⟩

end Go.Proofs.Ytbgimehbencdgaa
