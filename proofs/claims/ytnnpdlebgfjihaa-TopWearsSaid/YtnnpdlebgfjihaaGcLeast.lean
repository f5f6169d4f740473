/-
  The least and the greatest Wear, what may be erased, what is counted: the program's answers. Nothing of one statement alone stands here.
-/
import Derived.Test.YtnnpdlebgfjihaaGcBest
import Derived.Test.YtnnpdlebgfjihaaGcNum
namespace Go.Proofs.Ytnnpdlebgfjihaa
open Go.RowKit Gcm Go.ChangeShapes

set_option maxHeartbeats 400000 in
theorem lessWorn_any (a0 a1 a2 a3 b0 b1 b2 b3 : Int) (w : World) :
    Calls Try.prog 89 #[.agg #[.int .i64 a0, .int .i64 a1, .int .i64 a2, .int .i64 a3], .agg #[.int .i64 b0, .int .i64 b1, .int .i64 b2, .int .i64 b3]] w fun e w' => e = .returned (.bool (decide (a2 < b2))) ∧ Below w.heap.size w w' := by
  go_enter Try.func89, Try.ntmps89
  go_wp2
  go_ret
  exact ⟨rfl, ((Below.refl _ w).alloc (Nat.le_refl _) _).alloc (by simp) _⟩
theorem lw_on (l : List Bk) (w : World) : BetOn 89 #[] lw l w := fun W x y _ _ _ => lessWorn_any x.st x.lv x.wr x.nx y.st y.lv y.wr y.nx W

set_option maxHeartbeats 400000 in
theorem greater_any (a0 a1 a2 a3 b0 b1 b2 b3 : Int) (w : World) :
    Calls Try.prog 88 #[.agg #[.int .i64 a0, .int .i64 a1, .int .i64 a2, .int .i64 a3], .agg #[.int .i64 b0, .int .i64 b1, .int .i64 b2, .int .i64 b3]] w fun e w' => e = .returned (.bool (decide (b2 < a2))) ∧ Below w.heap.size w w' := by
  have H := Lib.hid (fun w => lessWorn_any b0 b1 b2 b3 a0 a1 a2 a3 w)
  generalize decide (b2 < a2) = r at H ⊢
  go_enter Try.func88, Try.ntmps88
  go_wp2_with fail
  refine (H.out _).mono ?_
  rintro e w' ⟨rfl, hb⟩
  go_wp2
  go_ret
  exact ⟨rfl, (((Below.refl _ w).alloc (Nat.le_refl _) _).alloc (by simp) _).trans (hb.mono (by simp; omega))⟩
theorem gw_on (l : List Bk) (w : World) : BetOn 88 #[] gw l w := fun W x y _ _ _ => greater_any x.st x.lv x.wr x.nx y.st y.lv y.wr y.nx W

set_option maxHeartbeats 400000 in
theorem lessLive_any (a0 a1 a2 a3 b0 b1 b2 b3 : Int) (w : World) :
    Calls Try.prog 114 #[.agg #[.int .i64 a0, .int .i64 a1, .int .i64 a2, .int .i64 a3], .agg #[.int .i64 b0, .int .i64 b1, .int .i64 b2, .int .i64 b3]] w fun e w' => e = .returned (.bool (decide (a1 < b1) || (a1 == b1 && decide (a2 < b2)))) ∧ Below w.heap.size w w' := by
  have hbb : Below w.heap.size w ((w.alloc (.cells #[.int .i64 a0, .int .i64 a1, .int .i64 a2, .int .i64 a3] 66)).alloc (.cells #[.int .i64 b0, .int .i64 b1, .int .i64 b2, .int .i64 b3] 66)) := ((Below.refl _ w).alloc (Nat.le_refl _) _).alloc (by simp) _
  have H := Lib.hid (fun w => lessWorn_any a0 a1 a2 a3 b0 b1 b2 b3 w)
  generalize decide (a2 < b2) = r at H ⊢
  by_cases c1 : a1 < b1
  · have d1 : decide (a1 < b1) = true := decide_eq_true c1
    rw [d1, Bool.true_or]
    clear c1
    go_enter Try.func114, Try.ntmps114
    go_wp2
    go_ret
    exact ⟨rfl, hbb⟩
  · have d1 : decide (a1 < b1) = false := decide_eq_false c1
    by_cases c2 : a1 = b1
    · have d2 : (a1 == b1) = true := by simp [c2]
      rw [d1, d2, Bool.false_or, Bool.true_and]
      clear c1 c2
      go_enter Try.func114, Try.ntmps114
      go_wp2_with fail
      refine (H.out _).mono ?_
      rintro e w' ⟨rfl, hb⟩
      go_wp2
      go_ret
      exact ⟨rfl, hbb.trans (hb.mono (by simp; omega))⟩
    · have d2 : (a1 == b1) = false := by simp [c2]
      rw [d1, d2, Bool.false_or, Bool.false_and]
      clear c1 c2
      go_enter Try.func114, Try.ntmps114
      go_wp2
      go_ret
      exact ⟨rfl, hbb⟩
theorem ll_on (l : List Bk) (w : World) : BetOn 114 #[] ll l w := fun W x y _ _ _ => lessLive_any x.st x.lv x.wr x.nx y.st y.lv y.wr y.nx W

set_option maxHeartbeats 400000 in
theorem good_any (a0 a1 a2 a3 : Int) (w : World) :
    Calls Try.prog 101 #[.agg #[.int .i64 a0, .int .i64 a1, .int .i64 a2, .int .i64 a3]] w fun e w' => e = .returned (.bool (a0 != 4)) ∧ Below w.heap.size w w' := by
  go_enter Try.func101, Try.ntmps101
  go_wp2
  go_ret
  exact ⟨rfl, (Below.refl _ w).alloc (Nat.le_refl _) _⟩
theorem good_on (l : List Bk) (w : World) : PredOn 101 #[] good l w := fun W x _ _ => good_any x.st x.lv x.wr x.nx W

set_option maxHeartbeats 400000 in
theorem wearOfBest_any (l : List Bk) (a : Option Addr) (cap n : Nat) (g : Nat) (lb : Array Value) (bt : Bk → Bk → Bool) (w : World) (hr : Rg w a l) (hl : l.length = n)
    (eg : ∀ args w, (callFunc g args).run Try.prog w = .ok (.enter g args) w) (hp : BetOn g lb bt l w) :
    Calls Try.prog 87 #[.slice a n cap, .func (.func g) #[] lb] w fun e w' => e = .returned (.int .i64 (wearAt bt l n)) ∧ Below w.heap.size w w' := by
  have HB := Lib.hid (best_any l a cap n 101 #[] good g lb bt w hr hl (enters_go Try.func101 (by kernel_rfl) rfl) (good_on l w) eg hp)
  have HR := Lib.hid hr
  have HL := Lib.hid hl
  have hlt := best_lt good bt l n
  have HW := Lib.hid (show wearAt bt l n = if best good bt l n < 0 then 0 else l[(best good bt l n).toNat]!.wr from rfl)
  generalize best good bt l n = k at HB hlt HW
  clear hr hl eg hp
  go_enter Try.func87, Try.ntmps87
  go_wp2_with fail
  refine HB.out.mono ?_
  rintro e w' ⟨rfl, hb⟩
  by_cases h0 : k < 0
  · have HW' := Lib.hid (HW.out.trans (if_pos h0))
    clear HW HB
    go_wp2
    go_ret
    exact ⟨gint HW'.out.symm, hb⟩
  · obtain ⟨q, rfl⟩ : ∃ q : Nat, k = q := ⟨k.toNat, by omega⟩
    have HW' := Lib.hid (HW.out.trans (if_neg h0))
    rw [Int.toNat_natCast] at HW'
    have hql : q < l.length := by rw [HL.out]; omega
    rcases HR.out.2.2 with rfl | ⟨b, off, rfl, hc⟩
    · simp at hql
    obtain ⟨c0, c1, c2, c3⟩ := at_below (hc q hql) hb
    generalize l[q]! = x at HW' c0 c1 c2 c3
    obtain ⟨st, lv, wr, nx⟩ := x
    have HB2 := Lib.hid hb
    have hqn : q < n := by omega
    clear hc HW HB HR hb c0 c1 c3 h0
    go_wp2
    go_ret
    exact ⟨gint HW'.out.symm, HB2.out⟩

set_option maxHeartbeats 400000 in
theorem least_any (l : List Bk) (a : Option Addr) (cap n : Nat) (w : World) (hr : Rg w a l) (hl : l.length = n) :
    Calls Try.prog 58 #[.slice a n cap] w fun e w' => e = .returned (.int .i64 (least l)) ∧ Below w.heap.size w w' := by
  have H := Lib.hid (wearOfBest_any l a cap n 89 #[] lw w hr hl (enters_go Try.func89 (by kernel_rfl) rfl) (lw_on l w))
  have e1 : wearAt lw l n = least l := by subst hl; rfl
  rw [e1] at H
  clear hr hl e1
  go_enter Try.func58, Try.ntmps58
  go_wp2_with fail
  refine H.out.mono ?_
  rintro e w' ⟨rfl, hb⟩
  go_wp2
  go_ret
  exact ⟨rfl, hb⟩

set_option maxHeartbeats 400000 in
theorem greatest_any (l : List Bk) (a : Option Addr) (cap n : Nat) (w : World) (hr : Rg w a l) (hl : l.length = n) :
    Calls Try.prog 57 #[.slice a n cap] w fun e w' => e = .returned (.int .i64 (greatest l)) ∧ Below w.heap.size w w' := by
  have H := Lib.hid (wearOfBest_any l a cap n 88 #[] gw w hr hl (enters_go Try.func88 (by kernel_rfl) rfl) (gw_on l w))
  have e1 : wearAt gw l n = greatest l := by subst hl; rfl
  rw [e1] at H
  clear hr hl e1
  go_enter Try.func57, Try.ntmps57
  go_wp2_with fail
  refine H.out.mono ?_
  rintro e w' ⟨rfl, hb⟩
  go_wp2
  go_ret
  exact ⟨rfl, hb⟩

theorem wrap_sub {a b : Int} (ha : 0 ≤ a ∧ a ≤ 1099511627776) (hb : 0 ≤ b ∧ b ≤ 1099511627776) : wrap64 (a - b) = a - b := IntWalk.wrap64_in _ ⟨by omega, by omega⟩

set_option maxHeartbeats 400000 in
theorem mayBeErased_any (a0 a1 a2 a3 m : Int) (w : World) (h : Hid (wrap64 (a2 - m) = a2 - m)) :
    Calls Try.prog 110 #[.agg #[.int .i64 a0, .int .i64 a1, .int .i64 a2, .int .i64 a3], .int .i64 m] w fun e w' => e = .returned (.bool (a0 != 4 && decide (a2 - m < 4))) ∧ Below w.heap.size w w' := by
  have hbb : Below w.heap.size w (w.alloc (.cells #[.int .i64 a0, .int .i64 a1, .int .i64 a2, .int .i64 a3] 66)) := (Below.refl _ w).alloc (Nat.le_refl _) _
  cases h4 : a0 != 4 with
  | false =>
    go_enter Try.func110, Try.ntmps110
    go_wp2
    go_ret
    exact ⟨rfl, hbb⟩
  | true =>
    go_enter Try.func110, Try.ntmps110
    go_wp2
    go_ret
    exact ⟨gbool (by rw [h.out]; rfl), hbb⟩

set_option maxHeartbeats 400000 in
theorem count_any (l : List Bk) (a : Option Addr) (cap n : Nat) (s : Int) (w : World) (hr : Rg w a l) (hl : l.length = n) :
    Calls Try.prog 64 #[.slice a n cap, .int .i64 s] w fun e w' => e = .returned (.int .i64 (cnt s l n)) ∧ Below w.heap.size w w' := by
  obtain ⟨-, hm, hc⟩ := hr
  unfold maxLen at hm
  have n1 : n ≤ 9223372036854775807 := by omega
  have HL := Lib.hid hl
  clear hl hm
  go_enter Try.func64, Try.ntmps64
  go_wp2_with fail
  go_loopw [5, 10] (fun f i wr => ∃ k : Nat, k ≤ n ∧ i = .int .i64 k ∧ Below w.heap.size w wr ∧ f = .int .i64 (cnt s l k)) (fun _ i _ => n - (intOf i).toNat)
  case atStart => exact ⟨0, by omega, rfl, Below.refl _ _, rfl⟩
  case round =>
    obtain ⟨k, hk, rfl, hb, rfl⟩ := hrel
    by_cases hlt : k < n
    · have hkl : k < l.length := by rw [HL.out]; exact hlt
      rcases hc with rfl | ⟨b, off, rfl, hc⟩
      · simp at hkl
      obtain ⟨c0, c1, c2, c3⟩ := at_below (hc k hkl) hb
      obtain ⟨y, hy⟩ : ∃ y, l[k]! = y := ⟨_, rfl⟩
      rw [hy] at c0 c1 c2 c3
      have HN := Lib.hid (cnt_at (s := s) hy)
      have HB := Lib.hid (hb.trans (((Below.refl _ wr).alloc (Nat.le_refl _) (.cells #[.int .i64 y.st, .int .i64 y.lv, .int .i64 y.wr, .int .i64 y.nx] 66)).mono hb.size))
      clear hy hc hkl hb
      obtain ⟨st, lv, wr', nx⟩ := y
      cases hs : st == s with
      | true =>
        have HN' := Lib.hid (HN.out.trans (if_pos hs))
        generalize cnt s l k = c at HN'
        clear HN
        go_wp2
        go_roundw
        case rel => exact ⟨k + 1, by omega, by go_num, HB.out, by rw [HN'.out]⟩
        case measure => simp [intOf]; omega
      | false =>
        have HN' := Lib.hid (HN.out.trans (if_neg (by rw [hs]; exact Bool.false_ne_true)))
        generalize cnt s l k = c at HN'
        clear HN
        go_wp2
        go_roundw
        case rel => exact ⟨k + 1, by omega, by go_num, HB.out, by rw [HN'.out]⟩
        case measure => simp [intOf]; omega
    · have : k = n := by omega
      subst this
      go_wp2
      go_ret
      exact ⟨rfl, hb⟩

end Go.Proofs.Ytnnpdlebgfjihaa
