/-
  The least and the greatest Wear, what may be erased, what is counted: the document's answers. Nothing of one statement alone stands here.
-/
import Derived.Test.YtoakgogngcmneaaGcRight
import Derived.Test.YtoakgogngcmneaaGcNum
namespace Go.Proofs.Ytoakgogngcmneaa
open Go.RowKit Gcm Go.ChangeShapes

set_option maxRecDepth 100000 in
set_option maxHeartbeats 1000000 in
/-- whether a row is right: the document's answer -/
theorem refRight_any (l : List Bk) (a : Option Addr) (cap n : Nat) (p : Int) (w : World) (hr : Rg w a l) (hl : l.length = n) :
    Calls Try.prog 31 #[.slice a n cap, .int .i64 p] w fun e w' => e = .returned (.bool (decide (Rt l p))) ∧ Below w.heap.size w w' := by
  by_cases h1 : p < 1
  · have hN := Lib.hid (show ¬ Rt l p from fun h => by have := h.1; omega)
    clear hr
    go_enter Try.func31, Try.ntmps31
    go_wp2
    go_ret
    exact ⟨gbool (decide_eq_false hN.out).symm, Below.refl _ _⟩
  by_cases h2 : 32 < p
  · have hN := Lib.hid (show ¬ Rt l p from fun h => by have := h.1; omega)
    clear hr
    go_enter Try.func31, Try.ntmps31
    go_wp2
    go_ret
    exact ⟨gbool (decide_eq_false hN.out).symm, Below.refl _ _⟩
  have q1 : decide (p < 1) = false := decide_eq_false h1
  have q2 : decide (32 < p) = false := decide_eq_false h2
  have HP := Lib.hid (show 1 ≤ p ∧ p ≤ 32 by omega)
  obtain ⟨-, hm, hc⟩ := hr
  unfold maxLen at hm
  have n1 : n ≤ 9223372036854775807 := by omega
  have HL := Lib.hid hl
  clear hl hm h1 h2
  go_enter Try.func31, Try.ntmps31
  go_wp2_with fail
  go_loopw [5] (fun i wr => ∃ k : Nat, k ≤ n ∧ i = .int .i64 k ∧ Below w.heap.size w wr ∧ Hid (Rk l p k)) (fun i _ => n - (intOf i).toNat)
  case atStart => exact ⟨0, by omega, rfl, Below.refl _ _, Lib.hid fun j hj => absurd hj (Nat.not_lt_zero _)⟩
  case round =>
    obtain ⟨k, hk, rfl, hb, HK⟩ := hrel
    by_cases hlt : k < n
    · have hkl : k < l.length := by rw [HL.out]; exact hlt
      rcases hc with rfl | ⟨b, off, rfl, hc⟩
      · simp at hkl
      obtain ⟨c0, c1, c2, c3⟩ := at_below (hc k hkl) hb
      obtain ⟨y, hy⟩ : ∃ y, l[k]! = y := ⟨_, rfl⟩
      rw [hy] at c0 c1 c2 c3
      have HY := Lib.hid hy
      have HB := Lib.hid (hb.trans (((Below.refl _ wr).alloc (Nat.le_refl _) (.cells #[.int .i64 y.st, .int .i64 y.lv, .int .i64 y.wr, .int .i64 y.nx] 60)).mono hb.size))
      clear hy hc hkl hb
      obtain ⟨st, lv, wr', nx⟩ := y
      by_cases hR : Rb p ⟨st, lv, wr', nx⟩
      · have HS := Lib.hid (Rk_step l p k HK.out (by rw [HY.out]; exact hR))
        obtain ⟨r0, r1, r2, r3, r4, r5, r6, r7, r8⟩ := hR
        dsimp only at r0 r1 r2 r3 r4 r5 r6 r7 r8
        have t0 : decide (st < 0) = false := decide_eq_false (by omega)
        have t1 : decide (4 < st) = false := decide_eq_false (by omega)
        have t2 : decide (lv < 0) = false := decide_eq_false (by omega)
        have t3 : decide (p < lv) = false := decide_eq_false (by omega)
        have t4 : decide (nx < 0) = false := decide_eq_false (by omega)
        have t5 : decide (p < nx) = false := decide_eq_false (by omega)
        have t6 : decide (wr' < 0) = false := decide_eq_false (by omega)
        have t7 : decide (1099511627776 < wr') = false := decide_eq_false (by omega)
        by_cases h0 : 0 < lv
        · have t8 : decide (0 < lv) = true := decide_eq_true h0
          rcases r8 h0 with rfl | rfl
          all_goals
            clear r0 r1 r2 r3 r4 r5 r6 r7 r8 h0
            go_wp2
            go_roundw
            case rel => exact ⟨k + 1, by omega, by go_num, HB.out, HS⟩
            case measure => simp [intOf]; omega
        · have t8 : decide (0 < lv) = false := decide_eq_false h0
          clear r0 r1 r2 r3 r4 r5 r6 r7 r8 h0
          go_wp2
          go_roundw
          case rel => exact ⟨k + 1, by omega, by go_num, HB.out, HS⟩
          case measure => simp [intOf]; omega
      · have HN := Lib.hid (Rk_no l p k (by rw [HL.out]; exact hlt) (by rw [HY.out]; exact hR))
        have HR := Lib.hid hR
        clear hR
        go_wp2
        all_goals first
          | (go_ret; exact ⟨gbool (decide_eq_false HN.out).symm, HB.out⟩)
          | (exfalso
             refine HR.out ?_
             exact ⟨by omega, by omega, by omega, by omega, by omega, by omega, by omega, (by show wr' ≤ 1099511627776; omega), by first | omega | (intro _; simp_all)⟩)
    · have : k = n := by omega
      subst this
      have HT := Lib.hid (Rk_all l p HP.out.1 HP.out.2 (by rw [HL.out]; exact HK.out))
      go_wp2
      go_ret
      exact ⟨gbool (decide_eq_true HT.out).symm, hb⟩
end Go.Proofs.Ytoakgogngcmneaa
