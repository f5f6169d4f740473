/-
  The least and the greatest Wear, what may be erased, what is counted: the document's answers. Nothing of one statement alone stands here.
-/
import Derived.Test.YtoakgogngcmneaaGcRight
import Derived.Test.YtoakgogngcmneaaGcNum
namespace Go.Proofs.Ytoakgogngcmneaa
open Go.RowKit Gcm Go.ChangeShapes


set_option maxHeartbeats 400000 in
theorem refLeast_any (l : List Bk) (a : Option Addr) (cap n : Nat) (w : World) (hr : Rg w a l) (hl : l.length = n) :
    Calls Try.prog 33 #[.slice a n cap] w fun e w' => e = .returned (.int .i64 (least l)) ∧ w = w' := by
  obtain ⟨-, hm, hc⟩ := hr
  unfold maxLen at hm
  have n1 : n ≤ 9223372036854775807 := by omega
  have HL := Lib.hid hl
  have HS := Lib.hid (fun k y h => wear_step (fun x y => decide (x < y)) l k y h)
  have HW := Lib.hid (show least l = wearAt (fun a b : Bk => (fun x y : Int => decide (x < y)) a.wr b.wr) l n by subst hl; rfl)
  generalize hbt : (fun a b : Bk => (fun x y : Int => decide (x < y)) a.wr b.wr) = bt at HS HW
  clear hl hm hbt
  go_enter Try.func33, Try.ntmps33
  go_wp2_with fail
  go_loop [3, 4, 5] (fun f g i => ∃ k : Nat, k ≤ n ∧ i = .int .i64 k ∧ f = .int .i64 (wearAt bt l k) ∧ g = .bool (decide (0 ≤ best good bt l k))) (fun _ _ i => n - (intOf i).toNat)
  case atStart => exact ⟨0, by omega, rfl, rfl, rfl⟩
  case round =>
    obtain ⟨k, hk, rfl, rfl, rfl⟩ := hrel
    by_cases hlt : k < n
    · have hkl : k < l.length := by rw [HL.out]; exact hlt
      rcases hc with rfl | ⟨b, off, rfl, hc⟩
      · simp at hkl
      obtain ⟨c0, c1, c2, c3⟩ := hc k hkl
      obtain ⟨y, hy⟩ : ∃ y, l[k]! = y := ⟨_, rfl⟩
      rw [hy] at c0 c1 c2 c3
      obtain ⟨s1, s2⟩ := HS.out k y hy
      have S1 := Lib.hid s1
      have S2 := Lib.hid s2
      clear hy hc hkl s1 s2 HS HW
      obtain ⟨st, lv, wr', nx⟩ := y
      have eg : good ⟨st, lv, wr', nx⟩ = (st != 4) := rfl
      rw [eg] at S1 S2
      generalize wearAt bt l k = f at S1
      generalize decide (0 ≤ best good bt l k) = g at S1 S2
      clear eg
      by_cases c4 : st = 4
      · subst c4
        have S1' := Lib.hid (S1.out.trans (if_neg (by simp)))
        have S2' := Lib.hid (S2.out.trans (by simp : _ = g))
        clear S1 S2
        go_wp2
        go_round
        case rel => exact ⟨k + 1, by omega, by go_num, by rw [S1'.out], by rw [S2'.out]⟩
        case measure => simp [intOf]; omega
      · have d4 : (st != 4) = true := by simp [c4]
        rw [d4] at S1 S2
        cases g with
        | false =>
          have S1' := Lib.hid (S1.out.trans (if_pos (by simp)))
          have S2' := Lib.hid (S2.out.trans (by simp : _ = true))
          clear S1 S2 c4
          go_wp2
          go_round
          case rel => exact ⟨k + 1, by omega, by go_num, by rw [S1'.out], by rw [S2'.out]⟩
          case measure => simp [intOf]; omega
        | true =>
          have S2' := Lib.hid (S2.out.trans (by simp : _ = true))
          cases dc : decide (wr' < f) with
          | true =>
            have S1' := Lib.hid (S1.out.trans (if_pos (by simpa using dc)))
            clear S1 S2 c4
            go_wp2
            go_round
            case rel => exact ⟨k + 1, by omega, by go_num, by rw [S1'.out], by rw [S2'.out]⟩
            case measure => simp [intOf]; omega
          | false =>
            have S1' := Lib.hid (S1.out.trans (if_neg (by simpa using dc)))
            clear S1 S2 c4
            go_wp2
            go_round
            case rel => exact ⟨k + 1, by omega, by go_num, by rw [S1'.out], by rw [S2'.out]⟩
            case measure => simp [intOf]; omega
    · have : k = n := by omega
      subst this
      go_wp2
      go_ret
      exact ⟨gint HW.out.symm, rfl⟩

set_option maxHeartbeats 400000 in
theorem refGreatest_any (l : List Bk) (a : Option Addr) (cap n : Nat) (w : World) (hr : Rg w a l) (hl : l.length = n) :
    Calls Try.prog 35 #[.slice a n cap] w fun e w' => e = .returned (.int .i64 (greatest l)) ∧ w = w' := by
  obtain ⟨-, hm, hc⟩ := hr
  unfold maxLen at hm
  have n1 : n ≤ 9223372036854775807 := by omega
  have HL := Lib.hid hl
  have HS := Lib.hid (fun k y h => wear_step (fun x y => decide (y < x)) l k y h)
  have HW := Lib.hid (show greatest l = wearAt (fun a b : Bk => (fun x y : Int => decide (y < x)) a.wr b.wr) l n by subst hl; rfl)
  generalize hbt : (fun a b : Bk => (fun x y : Int => decide (y < x)) a.wr b.wr) = bt at HS HW
  clear hl hm hbt
  go_enter Try.func35, Try.ntmps35
  go_wp2_with fail
  go_loop [3, 4, 5] (fun f g i => ∃ k : Nat, k ≤ n ∧ i = .int .i64 k ∧ f = .int .i64 (wearAt bt l k) ∧ g = .bool (decide (0 ≤ best good bt l k))) (fun _ _ i => n - (intOf i).toNat)
  case atStart => exact ⟨0, by omega, rfl, rfl, rfl⟩
  case round =>
    obtain ⟨k, hk, rfl, rfl, rfl⟩ := hrel
    by_cases hlt : k < n
    · have hkl : k < l.length := by rw [HL.out]; exact hlt
      rcases hc with rfl | ⟨b, off, rfl, hc⟩
      · simp at hkl
      obtain ⟨c0, c1, c2, c3⟩ := hc k hkl
      obtain ⟨y, hy⟩ : ∃ y, l[k]! = y := ⟨_, rfl⟩
      rw [hy] at c0 c1 c2 c3
      obtain ⟨s1, s2⟩ := HS.out k y hy
      have S1 := Lib.hid s1
      have S2 := Lib.hid s2
      clear hy hc hkl s1 s2 HS HW
      obtain ⟨st, lv, wr', nx⟩ := y
      have eg : good ⟨st, lv, wr', nx⟩ = (st != 4) := rfl
      rw [eg] at S1 S2
      generalize wearAt bt l k = f at S1
      generalize decide (0 ≤ best good bt l k) = g at S1 S2
      clear eg
      by_cases c4 : st = 4
      · subst c4
        have S1' := Lib.hid (S1.out.trans (if_neg (by simp)))
        have S2' := Lib.hid (S2.out.trans (by simp : _ = g))
        clear S1 S2
        go_wp2
        go_round
        case rel => exact ⟨k + 1, by omega, by go_num, by rw [S1'.out], by rw [S2'.out]⟩
        case measure => simp [intOf]; omega
      · have d4 : (st != 4) = true := by simp [c4]
        rw [d4] at S1 S2
        cases g with
        | false =>
          have S1' := Lib.hid (S1.out.trans (if_pos (by simp)))
          have S2' := Lib.hid (S2.out.trans (by simp : _ = true))
          clear S1 S2 c4
          go_wp2
          go_round
          case rel => exact ⟨k + 1, by omega, by go_num, by rw [S1'.out], by rw [S2'.out]⟩
          case measure => simp [intOf]; omega
        | true =>
          have S2' := Lib.hid (S2.out.trans (by simp : _ = true))
          cases dc : decide (f < wr') with
          | true =>
            have S1' := Lib.hid (S1.out.trans (if_pos (by simpa using dc)))
            clear S1 S2 c4
            go_wp2
            go_round
            case rel => exact ⟨k + 1, by omega, by go_num, by rw [S1'.out], by rw [S2'.out]⟩
            case measure => simp [intOf]; omega
          | false =>
            have S1' := Lib.hid (S1.out.trans (if_neg (by simpa using dc)))
            clear S1 S2 c4
            go_wp2
            go_round
            case rel => exact ⟨k + 1, by omega, by go_num, by rw [S1'.out], by rw [S2'.out]⟩
            case measure => simp [intOf]; omega
    · have : k = n := by omega
      subst this
      go_wp2
      go_ret
      exact ⟨gint HW.out.symm, rfl⟩

set_option maxHeartbeats 400000 in
theorem refCount_any (l : List Bk) (a : Option Addr) (cap n : Nat) (s : Int) (w : World) (hr : Rg w a l) (hl : l.length = n) :
    Calls Try.prog 37 #[.slice a n cap, .int .i64 s] w fun e w' => e = .returned (.int .i64 (cnt s l n)) ∧ w = w' := by
  obtain ⟨-, hm, hc⟩ := hr
  unfold maxLen at hm
  have n1 : n ≤ 9223372036854775807 := by omega
  have HL := Lib.hid hl
  clear hl hm
  go_enter Try.func37, Try.ntmps37
  go_wp2_with fail
  go_loop [5, 6] (fun f i => ∃ k : Nat, k ≤ n ∧ i = .int .i64 k ∧ f = .int .i64 (cnt s l k)) (fun _ i => n - (intOf i).toNat)
  case atStart => exact ⟨0, by omega, rfl, rfl⟩
  case round =>
    obtain ⟨k, hk, rfl, rfl⟩ := hrel
    by_cases hlt : k < n
    · have hkl : k < l.length := by rw [HL.out]; exact hlt
      rcases hc with rfl | ⟨b, off, rfl, hc⟩
      · simp at hkl
      obtain ⟨c0, c1, c2, c3⟩ := hc k hkl
      obtain ⟨y, hy⟩ : ∃ y, l[k]! = y := ⟨_, rfl⟩
      rw [hy] at c0 c1 c2 c3
      have HN := Lib.hid (cnt_at (s := s) hy)
      clear hy hc hkl
      obtain ⟨st, lv, wr', nx⟩ := y
      cases hs : st == s with
      | true =>
        have HN' := Lib.hid (HN.out.trans (if_pos hs))
        generalize cnt s l k = c at HN'
        clear HN
        go_wp2
        go_round
        case rel => exact ⟨k + 1, by omega, by go_num, by rw [HN'.out]⟩
        case measure => simp [intOf]; omega
      | false =>
        have HN' := Lib.hid (HN.out.trans (if_neg (by rw [hs]; exact Bool.false_ne_true)))
        generalize cnt s l k = c at HN'
        clear HN
        go_wp2
        go_round
        case rel => exact ⟨k + 1, by omega, by go_num, by rw [HN'.out]⟩
        case measure => simp [intOf]; omega
    · have : k = n := by omega
      subst this
      go_wp2
      go_ret
      exact ⟨rfl, rfl⟩

set_option maxHeartbeats 400000 in
theorem refLive_any (l : List Bk) (a : Option Addr) (cap n : Nat) (w : World) (hr : Rg w a l) (hl : l.length = n) :
    Calls Try.prog 39 #[.slice a n cap] w fun e w' => e = .returned (.int .i64 (lvs l n)) ∧ w = w' := by
  obtain ⟨-, hm, hc⟩ := hr
  unfold maxLen at hm
  have n1 : n ≤ 9223372036854775807 := by omega
  have HL := Lib.hid hl
  clear hl hm
  go_enter Try.func39, Try.ntmps39
  go_wp2_with fail
  go_loop [3, 4] (fun f i => ∃ k : Nat, k ≤ n ∧ i = .int .i64 k ∧ f = .int .i64 (lvs l k)) (fun _ i => n - (intOf i).toNat)
  case atStart => exact ⟨0, by omega, rfl, rfl⟩
  case round =>
    obtain ⟨k, hk, rfl, rfl⟩ := hrel
    by_cases hlt : k < n
    · have hkl : k < l.length := by rw [HL.out]; exact hlt
      rcases hc with rfl | ⟨b, off, rfl, hc⟩
      · simp at hkl
      obtain ⟨c0, c1, c2, c3⟩ := hc k hkl
      obtain ⟨y, hy⟩ : ∃ y, l[k]! = y := ⟨_, rfl⟩
      rw [hy] at c0 c1 c2 c3
      have HN := Lib.hid (lvs_at hy)
      clear hy hc hkl
      obtain ⟨st, lv, wr', nx⟩ := y
      generalize lvs l k = c at HN
      go_wp2
      go_round
      case rel => exact ⟨k + 1, by omega, by go_num, by rw [HN.out]⟩
      case measure => simp [intOf]; omega
    · have : k = n := by omega
      subst this
      go_wp2
      go_ret
      exact ⟨rfl, rfl⟩
end Go.Proofs.Ytoakgogngcmneaa
