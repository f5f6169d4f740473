/-
  The least and the greatest Wear, what may be erased, what is counted: the program's answers. Nothing of one statement alone stands here.
-/
import Derived.Test.YtoakgogngcmneaaGcBest
import Derived.Test.YtoakgogngcmneaaGcNum
namespace Go.Proofs.Ytoakgogngcmneaa
open Go.RowKit Gcm Go.ChangeShapes

set_option maxHeartbeats 400000 in
theorem lessWorn_any (a0 a1 a2 a3 b0 b1 b2 b3 : Int) (w : World) :
    Calls Try.prog 60 #[.agg #[.int .i64 a0, .int .i64 a1, .int .i64 a2, .int .i64 a3], .agg #[.int .i64 b0, .int .i64 b1, .int .i64 b2, .int .i64 b3]] w fun e w' => e = .returned (.bool (decide (a2 < b2))) ∧ Below w.heap.size w w' := by
  go_enter Try.func60, Try.ntmps60
  go_wp2
  go_ret
  exact ⟨rfl, ((Below.refl _ w).alloc (Nat.le_refl _) _).alloc (by simp) _⟩
theorem lw_on (l : List Bk) (w : World) : BetOn 60 #[] lw l w := fun W x y _ _ _ => lessWorn_any x.st x.lv x.wr x.nx y.st y.lv y.wr y.nx W

set_option maxHeartbeats 400000 in
theorem greater_any (a0 a1 a2 a3 b0 b1 b2 b3 : Int) (w : World) :
    Calls Try.prog 61 #[.agg #[.int .i64 a0, .int .i64 a1, .int .i64 a2, .int .i64 a3], .agg #[.int .i64 b0, .int .i64 b1, .int .i64 b2, .int .i64 b3]] w fun e w' => e = .returned (.bool (decide (b2 < a2))) ∧ Below w.heap.size w w' := by
  have H := Lib.hid (fun w => lessWorn_any b0 b1 b2 b3 a0 a1 a2 a3 w)
  generalize decide (b2 < a2) = r at H ⊢
  go_enter Try.func61, Try.ntmps61
  go_wp2_with fail
  refine (H.out _).mono ?_
  rintro e w' ⟨rfl, hb⟩
  go_wp2
  go_ret
  exact ⟨rfl, (((Below.refl _ w).alloc (Nat.le_refl _) _).alloc (by simp) _).trans (hb.mono (by simp; omega))⟩
theorem gw_on (l : List Bk) (w : World) : BetOn 61 #[] gw l w := fun W x y _ _ _ => greater_any x.st x.lv x.wr x.nx y.st y.lv y.wr y.nx W

set_option maxHeartbeats 400000 in
theorem lessLive_any (a0 a1 a2 a3 b0 b1 b2 b3 : Int) (w : World) :
    Calls Try.prog 85 #[.agg #[.int .i64 a0, .int .i64 a1, .int .i64 a2, .int .i64 a3], .agg #[.int .i64 b0, .int .i64 b1, .int .i64 b2, .int .i64 b3]] w fun e w' => e = .returned (.bool (decide (a1 < b1) || (a1 == b1 && decide (a2 < b2)))) ∧ Below w.heap.size w w' := by
  have hbb : Below w.heap.size w ((w.alloc (.cells #[.int .i64 a0, .int .i64 a1, .int .i64 a2, .int .i64 a3] 60)).alloc (.cells #[.int .i64 b0, .int .i64 b1, .int .i64 b2, .int .i64 b3] 60)) := ((Below.refl _ w).alloc (Nat.le_refl _) _).alloc (by simp) _
  have H := Lib.hid (fun w => lessWorn_any a0 a1 a2 a3 b0 b1 b2 b3 w)
  generalize decide (a2 < b2) = r at H ⊢
  by_cases c1 : a1 < b1
  · have d1 : decide (a1 < b1) = true := decide_eq_true c1
    rw [d1, Bool.true_or]
    clear c1
    go_enter Try.func85, Try.ntmps85
    go_wp2
    go_ret
    exact ⟨rfl, hbb⟩
  · have d1 : decide (a1 < b1) = false := decide_eq_false c1
    by_cases c2 : a1 = b1
    · have d2 : (a1 == b1) = true := by simp [c2]
      rw [d1, d2, Bool.false_or, Bool.true_and]
      clear c1 c2
      go_enter Try.func85, Try.ntmps85
      go_wp2_with fail
      refine (H.out _).mono ?_
      rintro e w' ⟨rfl, hb⟩
      go_wp2
      go_ret
      exact ⟨rfl, hbb.trans (hb.mono (by simp; omega))⟩
    · have d2 : (a1 == b1) = false := by simp [c2]
      rw [d1, d2, Bool.false_or, Bool.false_and]
      clear c1 c2
      go_enter Try.func85, Try.ntmps85
      go_wp2
      go_ret
      exact ⟨rfl, hbb⟩
theorem ll_on (l : List Bk) (w : World) : BetOn 85 #[] ll l w := fun W x y _ _ _ => lessLive_any x.st x.lv x.wr x.nx y.st y.lv y.wr y.nx W

set_option maxHeartbeats 400000 in
theorem good_any (a0 a1 a2 a3 : Int) (w : World) :
    Calls Try.prog 76 #[.agg #[.int .i64 a0, .int .i64 a1, .int .i64 a2, .int .i64 a3]] w fun e w' => e = .returned (.bool (a0 != 4)) ∧ Below w.heap.size w w' := by
  go_enter Try.func76, Try.ntmps76
  go_wp2
  go_ret
  exact ⟨rfl, (Below.refl _ w).alloc (Nat.le_refl _) _⟩
theorem good_on (l : List Bk) (w : World) : PredOn 76 #[] good l w := fun W x _ _ => good_any x.st x.lv x.wr x.nx W

set_option maxHeartbeats 400000 in
theorem wearOfBest_any (l : List Bk) (a : Option Addr) (cap n : Nat) (g : Nat) (lb : Array Value) (bt : Bk → Bk → Bool) (w : World) (hr : Rg w a l) (hl : l.length = n)
    (eg : ∀ args w, (callFunc g args).run Try.prog w = .ok (.enter g args) w) (hp : BetOn g lb bt l w) :
    Calls Try.prog 59 #[.slice a n cap, .func (.func g) #[] lb] w fun e w' => e = .returned (.int .i64 (wearAt bt l n)) ∧ Below w.heap.size w w' := by
  have HB := Lib.hid (best_any l a cap n 76 #[] good g lb bt w hr hl (enters_go Try.func76 (by kernel_rfl) rfl) (good_on l w) eg hp)
  have HR := Lib.hid hr
  have HL := Lib.hid hl
  have hlt := best_lt good bt l n
  have HW := Lib.hid (show wearAt bt l n = if best good bt l n < 0 then 0 else l[(best good bt l n).toNat]!.wr from rfl)
  generalize best good bt l n = k at HB hlt HW
  clear hr hl eg hp
  go_enter Try.func59, Try.ntmps59
  go_wp2_with fail
  refine HB.out.mono ?_
  rintro e w' ⟨rfl, hb⟩
  by_cases h0 : k < 0
  · have HW' := Lib.hid (HW.out.trans (if_pos h0))
    clear HW HB
    go_wp2
    go_ret
    exact ⟨gint HW'.out.symm, hb⟩
  · obtain ⟨q, rfl⟩ : ∃ q : Nat, k = q := ⟨k.toNat, by omega⟩
    have HW' := Lib.hid (HW.out.trans (if_neg h0))
    rw [Int.toNat_natCast] at HW'
    have hql : q < l.length := by rw [HL.out]; omega
    rcases HR.out.2.2 with rfl | ⟨b, off, rfl, hc⟩
    · simp at hql
    obtain ⟨c0, c1, c2, c3⟩ := at_below (hc q hql) hb
    generalize l[q]! = x at HW' c0 c1 c2 c3
    obtain ⟨st, lv, wr, nx⟩ := x
    have HB2 := Lib.hid hb
    have hqn : q < n := by omega
    clear hc HW HB HR hb c0 c1 c3 h0
    go_wp2
    go_ret
    exact ⟨gint HW'.out.symm, HB2.out⟩

set_option maxHeartbeats 400000 in
theorem least_any (l : List Bk) (a : Option Addr) (cap n : Nat) (w : World) (hr : Rg w a l) (hl : l.length = n) :
    Calls Try.prog 32 #[.slice a n cap] w fun e w' => e = .returned (.int .i64 (least l)) ∧ Below w.heap.size w w' := by
  have H := Lib.hid (wearOfBest_any l a cap n 60 #[] lw w hr hl (enters_go Try.func60 (by kernel_rfl) rfl) (lw_on l w))
  have e1 : wearAt lw l n = least l := by subst hl; rfl
  rw [e1] at H
  clear hr hl e1
  go_enter Try.func32, Try.ntmps32
  go_wp2_with fail
  refine H.out.mono ?_
  rintro e w' ⟨rfl, hb⟩
  go_wp2
  go_ret
  exact ⟨rfl, hb⟩

set_option maxHeartbeats 400000 in
theorem greatest_any (l : List Bk) (a : Option Addr) (cap n : Nat) (w : World) (hr : Rg w a l) (hl : l.length = n) :
    Calls Try.prog 34 #[.slice a n cap] w fun e w' => e = .returned (.int .i64 (greatest l)) ∧ Below w.heap.size w w' := by
  have H := Lib.hid (wearOfBest_any l a cap n 61 #[] gw w hr hl (enters_go Try.func61 (by kernel_rfl) rfl) (gw_on l w))
  have e1 : wearAt gw l n = greatest l := by subst hl; rfl
  rw [e1] at H
  clear hr hl e1
  go_enter Try.func34, Try.ntmps34
  go_wp2_with fail
  refine H.out.mono ?_
  rintro e w' ⟨rfl, hb⟩
  go_wp2
  go_ret
  exact ⟨rfl, hb⟩

theorem wrap_sub {a b : Int} (ha : 0 ≤ a ∧ a ≤ 1099511627776) (hb : 0 ≤ b ∧ b ≤ 1099511627776) : wrap64 (a - b) = a - b := IntWalk.wrap64_in _ ⟨by omega, by omega⟩

set_option maxHeartbeats 400000 in
theorem mayBeErased_any (a0 a1 a2 a3 m : Int) (w : World) (h : Hid (wrap64 (a2 - m) = a2 - m)) :
    Calls Try.prog 62 #[.agg #[.int .i64 a0, .int .i64 a1, .int .i64 a2, .int .i64 a3], .int .i64 m] w fun e w' => e = .returned (.bool (a0 != 4 && decide (a2 - m < 4))) ∧ Below w.heap.size w w' := by
  have hbb : Below w.heap.size w (w.alloc (.cells #[.int .i64 a0, .int .i64 a1, .int .i64 a2, .int .i64 a3] 60)) := (Below.refl _ w).alloc (Nat.le_refl _) _
  cases h4 : a0 != 4 with
  | false =>
    go_enter Try.func62, Try.ntmps62
    go_wp2
    go_ret
    exact ⟨rfl, hbb⟩
  | true =>
    go_enter Try.func62, Try.ntmps62
    go_wp2
    go_ret
    exact ⟨gbool (by rw [h.out]; rfl), hbb⟩

set_option maxRecDepth 100000 in
set_option maxHeartbeats 400000 in
theorem may_any (l : List Bk) (a : Option Addr) (cap n : Nat) (p k : Int) (w : World) (hr : Rg w a l) (hl : l.length = n) :
    Calls Try.prog 40 #[.slice a n cap, .int .i64 p, .int .i64 k] w fun e w' => e = .returned (.bool (mayAt l p k)) ∧ Below w.heap.size w w' := by
  have HR := Lib.hid (fun m : Later w => later_below (right_any l a cap n p m.to (hr.below m.bel) hl))
  by_cases hRt : Rt l p
  · rw [decide_eq_true hRt] at HR
    by_cases h0 : k < 0
    · have e1 := Lib.hid (mayAt_out (l := l) (p := p) (.inl h0))
      have t0 : decide (0 ≤ k) = false := by simp; omega
      clear hr hRt
      go_enter Try.func40, Try.ntmps40
      go_wp2_with fail
      refine wp_region_later (by kernel_rfl) (by kernel_rfl) ?_
      repeat (go_big_quiet_step (with_reducible first | exact HR.out _))
      refine wpQuiet_nil ?_
      rintro _ ⟨m, rfl⟩
      go_wp2
      go_ret
      exact ⟨gbool e1.out.symm, m.bel⟩
    · obtain ⟨q, rfl⟩ : ∃ q : Nat, k = q := ⟨k.toNat, by omega⟩
      have t0 : decide ((0 : Int) ≤ (q : Int)) = true := by simp
      by_cases hq : q < n
      · have hql : q < l.length := by omega
        have t1 : decide ((q : Int) < (n : Int)) = true := by simp; omega
        have HLe := Lib.hid (fun m : Later w => later_below (least_any l a cap n m.to (hr.below m.bel) hl))
        have e1 := Lib.hid (mayAt_in hRt hql)
        have hx := hRt.2 _ (getB_mem l q hql)
        have hw := wrap_sub (a := l[q]!.wr) (b := least l) (by unfold Rb at hx; omega) (least_bounds l p hRt)
        rcases hr.2.2 with rfl | ⟨b, off, rfl, hc⟩
        · simp at hql
        obtain ⟨c0, c1, c2, c3⟩ := hc q hql
        generalize l[q]! = x at e1 hw c0 c1 c2 c3
        generalize least l = le at HLe e1 hw
        obtain ⟨st, lv, wr, nx⟩ := x
        have f0 := fun m : Later w => m.cell c0
        have f1 := fun m : Later w => m.cell c1
        have f2 := fun m : Later w => m.cell c2
        have f3 := fun m : Later w => m.cell c3
        have HM := Lib.hid (fun m : Later w => later_below (mayBeErased_any st lv wr nx le m.to (Lib.hid hw)))
        have e2 : may le ⟨st, lv, wr, nx⟩ = (st != 4 && decide (wr - le < 4)) := rfl
        rw [e2] at e1
        have e3 := Lib.hid e1.out
        clear hr hRt hw hx hc c0 c1 c2 c3 e1 e2 h0
        generalize (st != 4 && decide (wr - le < 4)) = r at HM e3
        go_enter Try.func40, Try.ntmps40
        go_wp2_with fail
        refine wp_region_later (by kernel_rfl) (by kernel_rfl) ?_
        repeat (go_big_quiet_step (with_reducible first | exact HR.out _ | exact HLe.out _ | exact HM.out _))
        refine wpQuiet_nil ?_
        rintro _ ⟨m, rfl⟩
        go_wp2
        go_ret
        exact ⟨gbool e3.out.symm, m.bel⟩
      · have e1 := Lib.hid (mayAt_out (l := l) (p := p) (k := q) (.inr (by omega)))
        have t1 : decide ((q : Int) < (n : Int)) = false := by simp; omega
        clear hr hRt
        go_enter Try.func40, Try.ntmps40
        go_wp2_with fail
        refine wp_region_later (by kernel_rfl) (by kernel_rfl) ?_
        repeat (go_big_quiet_step (with_reducible first | exact HR.out _))
        refine wpQuiet_nil ?_
        rintro _ ⟨m, rfl⟩
        go_wp2
        go_ret
        exact ⟨gbool e1.out.symm, m.bel⟩
  · rw [decide_eq_false hRt] at HR
    have e1 := Lib.hid (mayAt_no (k := k) hRt)
    clear hr hRt
    go_enter Try.func40, Try.ntmps40
    go_wp2_with fail
    refine wp_region_later (by kernel_rfl) (by kernel_rfl) ?_
    repeat (go_big_quiet_step (with_reducible first | exact HR.out _))
    refine wpQuiet_nil ?_
    rintro _ ⟨m, rfl⟩
    go_wp2
    go_ret
    exact ⟨gbool e1.out.symm, m.bel⟩

set_option maxHeartbeats 400000 in
theorem count_any (l : List Bk) (a : Option Addr) (cap n : Nat) (s : Int) (w : World) (hr : Rg w a l) (hl : l.length = n) :
    Calls Try.prog 36 #[.slice a n cap, .int .i64 s] w fun e w' => e = .returned (.int .i64 (cnt s l n)) ∧ Below w.heap.size w w' := by
  obtain ⟨-, hm, hc⟩ := hr
  unfold maxLen at hm
  have n1 : n ≤ 9223372036854775807 := by omega
  have HL := Lib.hid hl
  clear hl hm
  go_enter Try.func36, Try.ntmps36
  go_wp2_with fail
  go_loopw [5, 10] (fun f i wr => ∃ k : Nat, k ≤ n ∧ i = .int .i64 k ∧ Below w.heap.size w wr ∧ f = .int .i64 (cnt s l k)) (fun _ i _ => n - (intOf i).toNat)
  case atStart => exact ⟨0, by omega, rfl, Below.refl _ _, rfl⟩
  case round =>
    obtain ⟨k, hk, rfl, hb, rfl⟩ := hrel
    by_cases hlt : k < n
    · have hkl : k < l.length := by rw [HL.out]; exact hlt
      rcases hc with rfl | ⟨b, off, rfl, hc⟩
      · simp at hkl
      obtain ⟨c0, c1, c2, c3⟩ := at_below (hc k hkl) hb
      obtain ⟨y, hy⟩ : ∃ y, l[k]! = y := ⟨_, rfl⟩
      rw [hy] at c0 c1 c2 c3
      have HN := Lib.hid (cnt_at (s := s) hy)
      have HB := Lib.hid (hb.trans (((Below.refl _ wr).alloc (Nat.le_refl _) (.cells #[.int .i64 y.st, .int .i64 y.lv, .int .i64 y.wr, .int .i64 y.nx] 60)).mono hb.size))
      clear hy hc hkl hb
      obtain ⟨st, lv, wr', nx⟩ := y
      cases hs : st == s with
      | true =>
        have HN' := Lib.hid (HN.out.trans (if_pos hs))
        generalize cnt s l k = c at HN'
        clear HN
        go_wp2
        go_roundw
        case rel => exact ⟨k + 1, by omega, by go_num, HB.out, by rw [HN'.out]⟩
        case measure => simp [intOf]; omega
      | false =>
        have HN' := Lib.hid (HN.out.trans (if_neg (by rw [hs]; exact Bool.false_ne_true)))
        generalize cnt s l k = c at HN'
        clear HN
        go_wp2
        go_roundw
        case rel => exact ⟨k + 1, by omega, by go_num, HB.out, by rw [HN'.out]⟩
        case measure => simp [intOf]; omega
    · have : k = n := by omega
      subst this
      go_wp2
      go_ret
      exact ⟨rfl, hb⟩

set_option maxHeartbeats 400000 in
theorem live_any (l : List Bk) (a : Option Addr) (cap n : Nat) (w : World) (hr : Rg w a l) (hl : l.length = n) :
    Calls Try.prog 38 #[.slice a n cap] w fun e w' => e = .returned (.int .i64 (lvs l n)) ∧ Below w.heap.size w w' := by
  obtain ⟨-, hm, hc⟩ := hr
  unfold maxLen at hm
  have n1 : n ≤ 9223372036854775807 := by omega
  have HL := Lib.hid hl
  clear hl hm
  go_enter Try.func38, Try.ntmps38
  go_wp2_with fail
  go_loopw [3, 8] (fun f i wr => ∃ k : Nat, k ≤ n ∧ i = .int .i64 k ∧ Below w.heap.size w wr ∧ f = .int .i64 (lvs l k)) (fun _ i _ => n - (intOf i).toNat)
  case atStart => exact ⟨0, by omega, rfl, Below.refl _ _, rfl⟩
  case round =>
    obtain ⟨k, hk, rfl, hb, rfl⟩ := hrel
    by_cases hlt : k < n
    · have hkl : k < l.length := by rw [HL.out]; exact hlt
      rcases hc with rfl | ⟨b, off, rfl, hc⟩
      · simp at hkl
      obtain ⟨c0, c1, c2, c3⟩ := at_below (hc k hkl) hb
      obtain ⟨y, hy⟩ : ∃ y, l[k]! = y := ⟨_, rfl⟩
      rw [hy] at c0 c1 c2 c3
      have HN := Lib.hid (lvs_at hy)
      have HB := Lib.hid (hb.trans (((Below.refl _ wr).alloc (Nat.le_refl _) (.cells #[.int .i64 y.st, .int .i64 y.lv, .int .i64 y.wr, .int .i64 y.nx] 60)).mono hb.size))
      clear hy hc hkl hb
      obtain ⟨st, lv, wr', nx⟩ := y
      generalize lvs l k = c at HN
      go_wp2
      go_roundw
      case rel => exact ⟨k + 1, by omega, by go_num, HB.out, by rw [HN.out]⟩
      case measure => simp [intOf]; omega
    · have : k = n := by omega
      subst this
      go_wp2
      go_ret
      exact ⟨rfl, hb⟩
end Go.Proofs.Ytoakgogngcmneaa
