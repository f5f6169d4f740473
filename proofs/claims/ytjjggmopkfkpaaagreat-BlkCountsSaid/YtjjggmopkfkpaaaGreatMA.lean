/-
  The least and the greatest Wear, what may be erased, what is counted: the document's answers. Nothing of one statement alone stands here.
-/
import Derived.Test.YtjjggmopkfkpaaaGreatKH
namespace Go.Proofs.YtjjggmopkfkpaaaGreat
open Go.RowKit Gcm Go.ChangeShapes


set_option maxHeartbeats 400000 in
theorem refLeast_any (l : List Bk) (a : Option Addr) (cap n : Nat) (w : World) (hr : Rg w a l) (hl : l.length = n) :
    Calls Tryz.prog 59 #[.slice a n cap] w fun e w' => e = .returned (.int .i64 (least l)) ∧ w = w' := by
  obtain ⟨-, hm, hc⟩ := hr
  unfold maxLen at hm
  have n1 : n ≤ 9223372036854775807 := by omega
  have HL := Lib.hid hl
  have HS := Lib.hid (fun k y h => wear_step (fun x y => decide (x < y)) l k y h)
  have HW := Lib.hid (show least l = wearAt (fun a b : Bk => (fun x y : Int => decide (x < y)) a.wr b.wr) l n by subst hl; rfl)
  generalize hbt : (fun a b : Bk => (fun x y : Int => decide (x < y)) a.wr b.wr) = bt at HS HW
  clear hl hm hbt
  go_enter Tryz.func59, Tryz.ntmps59
  go_wp2_with fail
  go_loop [3, 4, 5] (fun f g i => ∃ k : Nat, k ≤ n ∧ i = .int .i64 k ∧ f = .int .i64 (wearAt bt l k) ∧ g = .bool (decide (0 ≤ best good bt l k))) (fun _ _ i => n - (intOf i).toNat)
  case atStart => exact ⟨0, by omega, rfl, rfl, rfl⟩
  case round =>
    obtain ⟨k, hk, rfl, rfl, rfl⟩ := hrel
    by_cases hlt : k < n
    · have hkl : k < l.length := by rw [HL.out]; exact hlt
      rcases hc with rfl | ⟨b, off, rfl, hc⟩
      · simp at hkl
      obtain ⟨c0, c1, c2, c3⟩ := hc k hkl
      obtain ⟨y, hy⟩ : ∃ y, l[k]! = y := ⟨_, rfl⟩
      rw [hy] at c0 c1 c2 c3
      obtain ⟨s1, s2⟩ := HS.out k y hy
      have S1 := Lib.hid s1
      have S2 := Lib.hid s2
      clear hy hc hkl s1 s2 HS HW
      obtain ⟨st, lv, wr', nx⟩ := y
      have eg : good ⟨st, lv, wr', nx⟩ = (st != 4) := rfl
      rw [eg] at S1 S2
      generalize wearAt bt l k = f at S1
      generalize decide (0 ≤ best good bt l k) = g at S1 S2
      clear eg
      by_cases c4 : st = 4
      · subst c4
        have S1' := Lib.hid (S1.out.trans (if_neg (by simp)))
        have S2' := Lib.hid (S2.out.trans (by simp : _ = g))
        clear S1 S2
        go_wp2
        go_round
        case rel => exact ⟨k + 1, by omega, by go_num, by rw [S1'.out], by rw [S2'.out]⟩
        case measure => simp [intOf]; omega
      · have d4 : (st != 4) = true := by simp [c4]
        rw [d4] at S1 S2
        cases g with
        | false =>
          have S1' := Lib.hid (S1.out.trans (if_pos (by simp)))
          have S2' := Lib.hid (S2.out.trans (by simp : _ = true))
          clear S1 S2 c4
          go_wp2
          go_round
          case rel => exact ⟨k + 1, by omega, by go_num, by rw [S1'.out], by rw [S2'.out]⟩
          case measure => simp [intOf]; omega
        | true =>
          have S2' := Lib.hid (S2.out.trans (by simp : _ = true))
          cases dc : decide (wr' < f) with
          | true =>
            have S1' := Lib.hid (S1.out.trans (if_pos (by simpa using dc)))
            clear S1 S2 c4
            go_wp2
            go_round
            case rel => exact ⟨k + 1, by omega, by go_num, by rw [S1'.out], by rw [S2'.out]⟩
            case measure => simp [intOf]; omega
          | false =>
            have S1' := Lib.hid (S1.out.trans (if_neg (by simpa using dc)))
            clear S1 S2 c4
            go_wp2
            go_round
            case rel => exact ⟨k + 1, by omega, by go_num, by rw [S1'.out], by rw [S2'.out]⟩
            case measure => simp [intOf]; omega
    · have : k = n := by omega
      subst this
      go_wp2
      go_ret
      exact ⟨gint HW.out.symm, rfl⟩

set_option maxHeartbeats 400000 in
theorem refGreatest_any (l : List Bk) (a : Option Addr) (cap n : Nat) (w : World) (hr : Rg w a l) (hl : l.length = n) :
    Calls Tryz.prog 58 #[.slice a n cap] w fun e w' => e = .returned (.int .i64 (greatest l)) ∧ w = w' := by
  obtain ⟨-, hm, hc⟩ := hr
  unfold maxLen at hm
  have n1 : n ≤ 9223372036854775807 := by omega
  have HL := Lib.hid hl
  have HS := Lib.hid (fun k y h => wear_step (fun x y => decide (y < x)) l k y h)
  have HW := Lib.hid (show greatest l = wearAt (fun a b : Bk => (fun x y : Int => decide (y < x)) a.wr b.wr) l n by subst hl; rfl)
  generalize hbt : (fun a b : Bk => (fun x y : Int => decide (y < x)) a.wr b.wr) = bt at HS HW
  clear hl hm hbt
  go_enter Tryz.func58, Tryz.ntmps58
  go_wp2_with fail
  go_loop [3, 4, 5] (fun f g i => ∃ k : Nat, k ≤ n ∧ i = .int .i64 k ∧ f = .int .i64 (wearAt bt l k) ∧ g = .bool (decide (0 ≤ best good bt l k))) (fun _ _ i => n - (intOf i).toNat)
  case atStart => exact ⟨0, by omega, rfl, rfl, rfl⟩
  case round =>
    obtain ⟨k, hk, rfl, rfl, rfl⟩ := hrel
    by_cases hlt : k < n
    · have hkl : k < l.length := by rw [HL.out]; exact hlt
      rcases hc with rfl | ⟨b, off, rfl, hc⟩
      · simp at hkl
      obtain ⟨c0, c1, c2, c3⟩ := hc k hkl
      obtain ⟨y, hy⟩ : ∃ y, l[k]! = y := ⟨_, rfl⟩
      rw [hy] at c0 c1 c2 c3
      obtain ⟨s1, s2⟩ := HS.out k y hy
      have S1 := Lib.hid s1
      have S2 := Lib.hid s2
      clear hy hc hkl s1 s2 HS HW
      obtain ⟨st, lv, wr', nx⟩ := y
      have eg : good ⟨st, lv, wr', nx⟩ = (st != 4) := rfl
      rw [eg] at S1 S2
      generalize wearAt bt l k = f at S1
      generalize decide (0 ≤ best good bt l k) = g at S1 S2
      clear eg
      by_cases c4 : st = 4
      · subst c4
        have S1' := Lib.hid (S1.out.trans (if_neg (by simp)))
        have S2' := Lib.hid (S2.out.trans (by simp : _ = g))
        clear S1 S2
        go_wp2
        go_round
        case rel => exact ⟨k + 1, by omega, by go_num, by rw [S1'.out], by rw [S2'.out]⟩
        case measure => simp [intOf]; omega
      · have d4 : (st != 4) = true := by simp [c4]
        rw [d4] at S1 S2
        cases g with
        | false =>
          have S1' := Lib.hid (S1.out.trans (if_pos (by simp)))
          have S2' := Lib.hid (S2.out.trans (by simp : _ = true))
          clear S1 S2 c4
          go_wp2
          go_round
          case rel => exact ⟨k + 1, by omega, by go_num, by rw [S1'.out], by rw [S2'.out]⟩
          case measure => simp [intOf]; omega
        | true =>
          have S2' := Lib.hid (S2.out.trans (by simp : _ = true))
          cases dc : decide (f < wr') with
          | true =>
            have S1' := Lib.hid (S1.out.trans (if_pos (by simpa using dc)))
            clear S1 S2 c4
            go_wp2
            go_round
            case rel => exact ⟨k + 1, by omega, by go_num, by rw [S1'.out], by rw [S2'.out]⟩
            case measure => simp [intOf]; omega
          | false =>
            have S1' := Lib.hid (S1.out.trans (if_neg (by simpa using dc)))
            clear S1 S2 c4
            go_wp2
            go_round
            case rel => exact ⟨k + 1, by omega, by go_num, by rw [S1'.out], by rw [S2'.out]⟩
            case measure => simp [intOf]; omega
    · have : k = n := by omega
      subst this
      go_wp2
      go_ret
      exact ⟨gint HW.out.symm, rfl⟩

set_option maxHeartbeats 400000 in
theorem refCount_any (l : List Bk) (a : Option Addr) (cap n : Nat) (s : Int) (w : World) (hr : Rg w a l) (hl : l.length = n) :
    Calls Tryz.prog 14 #[.slice a n cap, .int .i64 s] w fun e w' => e = .returned (.int .i64 (cnt s l n)) ∧ w = w' := by
  obtain ⟨-, hm, hc⟩ := hr
  unfold maxLen at hm
  have n1 : n ≤ 9223372036854775807 := by omega
  have HL := Lib.hid hl
  clear hl hm
  go_enter Tryz.func14, Tryz.ntmps14
  go_wp2_with fail
  go_loop [5, 6] (fun f i => ∃ k : Nat, k ≤ n ∧ i = .int .i64 k ∧ f = .int .i64 (cnt s l k)) (fun _ i => n - (intOf i).toNat)
  case atStart => exact ⟨0, by omega, rfl, rfl⟩
  case round =>
    obtain ⟨k, hk, rfl, rfl⟩ := hrel
    by_cases hlt : k < n
    · have hkl : k < l.length := by rw [HL.out]; exact hlt
      rcases hc with rfl | ⟨b, off, rfl, hc⟩
      · simp at hkl
      obtain ⟨c0, c1, c2, c3⟩ := hc k hkl
      obtain ⟨y, hy⟩ : ∃ y, l[k]! = y := ⟨_, rfl⟩
      rw [hy] at c0 c1 c2 c3
      have HN := Lib.hid (cnt_at (s := s) hy)
      clear hy hc hkl
      obtain ⟨st, lv, wr', nx⟩ := y
      cases hs : st == s with
      | true =>
        have HN' := Lib.hid (HN.out.trans (if_pos hs))
        generalize cnt s l k = c at HN'
        clear HN
        go_wp2
        go_round
        case rel => exact ⟨k + 1, by omega, by go_num, by rw [HN'.out]⟩
        case measure => simp [intOf]; omega
      | false =>
        have HN' := Lib.hid (HN.out.trans (if_neg (by rw [hs]; exact Bool.false_ne_true)))
        generalize cnt s l k = c at HN'
        clear HN
        go_wp2
        go_round
        case rel => exact ⟨k + 1, by omega, by go_num, by rw [HN'.out]⟩
        case measure => simp [intOf]; omega
    · have : k = n := by omega
      subst this
      go_wp2
      go_ret
      exact ⟨rfl, rfl⟩

set_option maxHeartbeats 400000 in
theorem refLive_any (l : List Bk) (a : Option Addr) (cap n : Nat) (w : World) (hr : Rg w a l) (hl : l.length = n) :
    Calls Tryz.prog 7 #[.slice a n cap] w fun e w' => e = .returned (.int .i64 (lvs l n)) ∧ w = w' := by
  obtain ⟨-, hm, hc⟩ := hr
  unfold maxLen at hm
  have n1 : n ≤ 9223372036854775807 := by omega
  have HL := Lib.hid hl
  clear hl hm
  go_enter Tryz.func7, Tryz.ntmps7
  go_wp2_with fail
  go_loop [3, 4] (fun f i => ∃ k : Nat, k ≤ n ∧ i = .int .i64 k ∧ f = .int .i64 (lvs l k)) (fun _ i => n - (intOf i).toNat)
  case atStart => exact ⟨0, by omega, rfl, rfl⟩
  case round =>
    obtain ⟨k, hk, rfl, rfl⟩ := hrel
    by_cases hlt : k < n
    · have hkl : k < l.length := by rw [HL.out]; exact hlt
      rcases hc with rfl | ⟨b, off, rfl, hc⟩
      · simp at hkl
      obtain ⟨c0, c1, c2, c3⟩ := hc k hkl
      obtain ⟨y, hy⟩ : ∃ y, l[k]! = y := ⟨_, rfl⟩
      rw [hy] at c0 c1 c2 c3
      have HN := Lib.hid (lvs_at hy)
      clear hy hc hkl
      obtain ⟨st, lv, wr', nx⟩ := y
      generalize lvs l k = c at HN
      go_wp2
      go_round
      case rel => exact ⟨k + 1, by omega, by go_num, by rw [HN.out]⟩
      case measure => simp [intOf]; omega
    · have : k = n := by omega
      subst this
      go_wp2
      go_ret
      exact ⟨rfl, rfl⟩
end Go.Proofs.YtjjggmopkfkpaaaGreat

/-
  The least and the greatest Wear, what may be erased, what is counted: the document's answers. Nothing of one statement alone stands here.
-/
namespace Go.Proofs.YtjjggmopkfkpaaaGreat
open Go.RowKit Gcm Go.ChangeShapes

set_option maxRecDepth 100000 in
set_option maxHeartbeats 1000000 in
/-- whether a row is right: the document's answer -/
theorem refRight_any (l : List Bk) (a : Option Addr) (cap n : Nat) (p : Int) (w : World) (hr : Rg w a l) (hl : l.length = n) :
    Calls Tryz.prog 15 #[.slice a n cap, .int .i64 p] w fun e w' => e = .returned (.bool (decide (Rt l p))) ∧ Below w.heap.size w w' := by
  by_cases h1 : p < 1
  · have hN := Lib.hid (show ¬ Rt l p from fun h => by have := h.1; omega)
    clear hr
    go_enter Tryz.func15, Tryz.ntmps15
    go_wp2
    go_ret
    exact ⟨gbool (decide_eq_false hN.out).symm, Below.refl _ _⟩
  by_cases h2 : 32 < p
  · have hN := Lib.hid (show ¬ Rt l p from fun h => by have := h.1; omega)
    clear hr
    go_enter Tryz.func15, Tryz.ntmps15
    go_wp2
    go_ret
    exact ⟨gbool (decide_eq_false hN.out).symm, Below.refl _ _⟩
  have q1 : decide (p < 1) = false := decide_eq_false h1
  have q2 : decide (32 < p) = false := decide_eq_false h2
  have HP := Lib.hid (show 1 ≤ p ∧ p ≤ 32 by omega)
  obtain ⟨-, hm, hc⟩ := hr
  unfold maxLen at hm
  have n1 : n ≤ 9223372036854775807 := by omega
  have HL := Lib.hid hl
  clear hl hm h1 h2
  go_enter Tryz.func15, Tryz.ntmps15
  go_wp2_with fail
  go_loopw [5] (fun i wr => ∃ k : Nat, k ≤ n ∧ i = .int .i64 k ∧ Below w.heap.size w wr ∧ Hid (Rk l p k)) (fun i _ => n - (intOf i).toNat)
  case atStart => exact ⟨0, by omega, rfl, Below.refl _ _, Lib.hid fun j hj => absurd hj (Nat.not_lt_zero _)⟩
  case round =>
    obtain ⟨k, hk, rfl, hb, HK⟩ := hrel
    by_cases hlt : k < n
    · have hkl : k < l.length := by rw [HL.out]; exact hlt
      rcases hc with rfl | ⟨b, off, rfl, hc⟩
      · simp at hkl
      obtain ⟨c0, c1, c2, c3⟩ := at_below (hc k hkl) hb
      obtain ⟨y, hy⟩ : ∃ y, l[k]! = y := ⟨_, rfl⟩
      rw [hy] at c0 c1 c2 c3
      have HY := Lib.hid hy
      have HB := Lib.hid (hb.trans (((Below.refl _ wr).alloc (Nat.le_refl _) (.cells #[.int .i64 y.st, .int .i64 y.lv, .int .i64 y.wr, .int .i64 y.nx] 68)).mono hb.size))
      clear hy hc hkl hb
      obtain ⟨st, lv, wr', nx⟩ := y
      by_cases hR : Rb p ⟨st, lv, wr', nx⟩
      · have HS := Lib.hid (Rk_step l p k HK.out (by rw [HY.out]; exact hR))
        obtain ⟨r0, r1, r2, r3, r4, r5, r6, r7, r8⟩ := hR
        dsimp only at r0 r1 r2 r3 r4 r5 r6 r7 r8
        have t0 : decide (st < 0) = false := decide_eq_false (by omega)
        have t1 : decide (4 < st) = false := decide_eq_false (by omega)
        have t2 : decide (lv < 0) = false := decide_eq_false (by omega)
        have t3 : decide (p < lv) = false := decide_eq_false (by omega)
        have t4 : decide (nx < 0) = false := decide_eq_false (by omega)
        have t5 : decide (p < nx) = false := decide_eq_false (by omega)
        have t6 : decide (wr' < 0) = false := decide_eq_false (by omega)
        have t7 : decide (1099511627776 < wr') = false := decide_eq_false (by omega)
        by_cases h0 : 0 < lv
        · have t8 : decide (0 < lv) = true := decide_eq_true h0
          rcases r8 h0 with rfl | rfl
          all_goals
            clear r0 r1 r2 r3 r4 r5 r6 r7 r8 h0
            go_wp2
            go_roundw
            case rel => exact ⟨k + 1, by omega, by go_num, HB.out, HS⟩
            case measure => simp [intOf]; omega
        · have t8 : decide (0 < lv) = false := decide_eq_false h0
          clear r0 r1 r2 r3 r4 r5 r6 r7 r8 h0
          go_wp2
          go_roundw
          case rel => exact ⟨k + 1, by omega, by go_num, HB.out, HS⟩
          case measure => simp [intOf]; omega
      · have HN := Lib.hid (Rk_no l p k (by rw [HL.out]; exact hlt) (by rw [HY.out]; exact hR))
        have HR := Lib.hid hR
        clear hR
        go_wp2
        all_goals first
          | (go_ret; exact ⟨gbool (decide_eq_false HN.out).symm, HB.out⟩)
          | (exfalso
             refine HR.out ?_
             exact ⟨by omega, by omega, by omega, by omega, by omega, by omega, by omega, (by show wr' ≤ 1099511627776; omega), by first | omega | (intro _; simp_all)⟩)
    · have : k = n := by omega
      subst this
      have HT := Lib.hid (Rk_all l p HP.out.1 HP.out.2 (by rw [HL.out]; exact HK.out))
      go_wp2
      go_ret
      exact ⟨gbool (decide_eq_true HT.out).symm, hb⟩
end Go.Proofs.YtjjggmopkfkpaaaGreat
