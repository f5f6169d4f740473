/-
  What is looked for in a row of blocks by function values. Nothing of one statement alone stands here.
-/
import Derived.Test.YtnnpdlebgfjihaaGcRight
import Derived.Test.YtnnpdlebgfjihaaGcNum
namespace Go.Proofs.Ytnnpdlebgfjihaa
open Go.RowKit Gcm Go.ChangeShapes

theorem pred_step {g : Nat} {lb : Array Value} {p : Bk → Bool} {l : List Bk} {w W : World} (h : PredOn g lb p l w) (hb : Below w.heap.size w W) (j : Nat) (hj : j < l.length) (y : Bk) (hy : l[j]! = y) :
    Calls Try.prog g (#[.agg #[.int .i64 y.st, .int .i64 y.lv, .int .i64 y.wr, .int .i64 y.nx]] ++ lb) W fun e w' => e = .returned (.bool (p y)) ∧ Below W.heap.size W w' := by
  subst hy
  exact h W _ (getB_mem l j hj) hb

/-- the place of the first of which a predicate holds -/
def idx (p : Bk → Bool) (l : List Bk) : Int := if l.any p then 0 else -1

set_option maxHeartbeats 400000 in
/-- whether a predicate holds of one of the first blocks -/
theorem indexFunc_any (l : List Bk) (a : Option Addr) (cap n : Nat) (g : Nat) (lb : Array Value) (p : Bk → Bool) (w : World) (hr : Rg w a l) (hl : l.length = n)
    (eg : ∀ args w, (callFunc g args).run Try.prog w = .ok (.enter g args) w) (hp : PredOn g lb p l w) :
    Calls Try.prog 117 #[.slice a n cap, .func (.func g) #[] lb] w fun e w' => (∃ k : Int, e = .returned (.int .i64 k) ∧ decide (0 ≤ k) = l.any p) ∧ Below w.heap.size w w' := by
  obtain ⟨hz, hm, hc⟩ := hr
  unfold maxLen at hm
  clear hz
  have HP := Lib.hid hp
  have HL := Lib.hid hl
  have n1 : n ≤ 9223372036854775807 := by omega
  clear hp hl hm
  go_enter Try.func117, Try.ntmps117
  go_wp2_with fail
  go_loopw [5, 8] (fun _ i wr => ∃ k : Nat, k ≤ n ∧ i = .int .i64 k ∧ Below w.heap.size w wr ∧ Hid (∀ j, j < k → p l[j]! = false)) (fun _ i _ => n - (intOf i).toNat)
  case atStart => exact ⟨0, by omega, rfl, Below.refl _ _, Lib.hid fun j hj => absurd hj (Nat.not_lt_zero _)⟩
  case round =>
    obtain ⟨k, hk, rfl, hb, hN⟩ := hrel
    by_cases hlt : k < n
    · have hkl : k < l.length := by rw [HL.out]; exact hlt
      rcases hc with rfl | ⟨b, off, rfl, hc⟩
      · simp at hkl
      obtain ⟨c0, c1, c2, c3⟩ := at_below (hc k hkl) hb
      obtain ⟨y, hy⟩ : ∃ y, l[k]! = y := ⟨_, rfl⟩
      rw [hy] at c0 c1 c2 c3
      have HS := Lib.hid (pred_step HP.out hb k hkl y hy)
      have HY := Lib.hid hy
      have HB := Lib.hid hb
      clear hy hc hkl hb
      obtain ⟨st, lv, wr', nx⟩ := y
      cases hq : p ⟨st, lv, wr', nx⟩ with
      | true =>
        rw [hq] at HS
        have HQ := Lib.hid hq
        clear hq
        go_wp2_with fail
        refine HS.out.mono ?_
        rintro e w' ⟨rfl, hb2⟩
        go_wp2
        go_ret
        refine ⟨⟨_, rfl, ?_⟩, HB.out.trans (hb2.mono HB.out.size)⟩
        have e1 : l.any p = true := List.any_eq_true.2 ⟨l[k]!, getB_mem l k (by rw [HL.out]; exact hlt), by rw [HY.out]; exact HQ.out⟩
        rw [e1]
        exact decide_eq_true (by omega)
      | false =>
        rw [hq] at HS
        have HQ := Lib.hid hq
        clear hq
        go_wp2_with fail
        refine HS.out.mono ?_
        rintro e w' ⟨rfl, hb2⟩
        have HB2 := Lib.hid hb2
        clear hb2
        go_wp2
        go_roundw
        case rel =>
          refine ⟨k + 1, by omega, by go_num, HB.out.trans (HB2.out.mono HB.out.size), Lib.hid fun j hj => ?_⟩
          by_cases e : j = k
          · subst e; rw [HY.out]; exact HQ.out
          · exact hN.out j (by omega)
        case measure => simp [intOf]; omega
    · have : k = n := by omega
      subst this
      go_wp2
      go_ret
      refine ⟨⟨_, rfl, ?_⟩, hb⟩
      have e1 : l.any p = false := by
        rw [List.any_eq_false]
        intro x hx
        obtain ⟨j, hj, rfl⟩ := mem_getB l x hx
        rw [hN.out j (by rw [← HL.out]; exact hj)]
        exact Bool.false_ne_true
      rw [e1]
      rfl

set_option maxHeartbeats 400000 in
theorem containsFunc_any (l : List Bk) (a : Option Addr) (cap n : Nat) (g : Nat) (lb : Array Value) (p : Bk → Bool) (w : World) (hr : Rg w a l) (hl : l.length = n)
    (eg : ∀ args w, (callFunc g args).run Try.prog w = .ok (.enter g args) w) (hp : PredOn g lb p l w) :
    Calls Try.prog 102 #[.slice a n cap, .func (.func g) #[] lb] w fun e w' => e = .returned (.bool (l.any p)) ∧ Below w.heap.size w w' := by
  have HI := Lib.hid (indexFunc_any l a cap n g lb p w hr hl eg hp)
  clear hr hl eg hp
  go_enter Try.func102, Try.ntmps102
  go_wp2_with fail
  refine HI.out.mono ?_
  rintro e w' ⟨⟨k, rfl, hk⟩, hb⟩
  have HK := Lib.hid hk
  have HB := Lib.hid hb
  clear hk hb HI
  go_wp2
  go_ret
  exact ⟨gbool HK.out, HB.out⟩

theorem any_rt (l : List Bk) (p : Int) (h1 : 1 ≤ p) (h2 : p ≤ 32) : (!l.any fun b => !decide (Rb p b)) = decide (Rt l p) := by
  refine gd ?_
  unfold Rt
  cases h : l.any fun b => !decide (Rb p b) with
  | true =>
    obtain ⟨x, hx, g⟩ := List.any_eq_true.1 h
    simp at g
    exact ⟨fun e => (by cases e), fun e => absurd (e.2 x hx) g⟩
  | false =>
    refine ⟨fun _ => ⟨⟨h1, h2⟩, fun b hb => ?_⟩, fun _ => rfl⟩
    have := List.any_eq_false.1 h b hb
    simpa using this

set_option maxHeartbeats 400000 in
/-- whether a row is right: the program's answer -/
theorem right_any (l : List Bk) (a : Option Addr) (cap n : Nat) (p : Int) (w : World) (hr : Rg w a l) (hl : l.length = n) :
    Calls Try.prog 90 #[.slice a n cap, .int .i64 p] w fun e w' => e = .returned (.bool (decide (Rt l p))) ∧ Below w.heap.size w w' := by
  have hbw : Below w.heap.size w (w.alloc (.cells #[.int .i64 p] 3)) := (Below.refl _ w).alloc (Nat.le_refl _) _
  by_cases h1 : p < 1
  · have hN := Lib.hid (show ¬ Rt l p from fun h => by have := h.1; omega)
    clear hr
    go_enter Try.func90, Try.ntmps90
    go_wp2
    go_ret
    exact ⟨gbool (decide_eq_false hN.out).symm, hbw⟩
  by_cases h2 : 32 < p
  · have hN := Lib.hid (show ¬ Rt l p from fun h => by have := h.1; omega)
    clear hr
    go_enter Try.func90, Try.ntmps90
    go_wp2
    go_ret
    exact ⟨gbool (decide_eq_false hN.out).symm, hbw⟩
  · have HC := Lib.hid (fun W (hW : Below w.heap.size w W) (hc : W.cell? ⟨w.heap.size, 0, none⟩ = some (.int .i64 p)) =>
      containsFunc_any l a cap n 103 #[.pointer (some ⟨w.heap.size, 0, none⟩)] (fun b => !decide (Rb p b)) W (hr.below hW) hl (enters_go Try.func103 (by kernel_rfl) rfl) (right1 l p (by omega) W _ hc))
    rw [← any_rt l p (by omega) (by omega)]
    generalize (l.any fun b => !decide (Rb p b)) = r at HC ⊢
    clear hr
    go_enter Try.func90, Try.ntmps90
    go_wp2_with fail
    refine (HC.out _ hbw (by simp)).mono ?_
    rintro e w' ⟨rfl, hb⟩
    go_wp2
    go_ret
    exact ⟨rfl, hbw.trans (hb.mono (by simp))⟩


/-- what a function value says of two blocks of a row -/
def BetOn (g : Nat) (lb : Array Value) (bt : Bk → Bk → Bool) (l : List Bk) (w : World) : Prop :=
  ∀ (W : World) (x y : Bk), x ∈ l → y ∈ l → Below w.heap.size w W → Calls Try.prog g (#[x.v, y.v] ++ lb) W fun e w' => e = .returned (.bool (bt x y)) ∧ Below W.heap.size W w'
theorem bet_step {g : Nat} {lb : Array Value} {bt : Bk → Bk → Bool} {l : List Bk} {w W : World} (h : BetOn g lb bt l w) (hb : Below w.heap.size w W) (j k : Nat) (hj : j < l.length) (hk : k < l.length) (x y : Bk) (hx : l[j]! = x) (hy : l[k]! = y) :
    Calls Try.prog g (#[.agg #[.int .i64 x.st, .int .i64 x.lv, .int .i64 x.wr, .int .i64 x.nx], .agg #[.int .i64 y.st, .int .i64 y.lv, .int .i64 y.wr, .int .i64 y.nx]] ++ lb) W fun e w' => e = .returned (.bool (bt x y)) ∧ Below W.heap.size W w' := by
  subst hx hy
  exact h W _ _ (getB_mem l j hj) (getB_mem l k hk) hb

theorem _root_.Go.Later.cell {w : World} (m : Later w) {p : Addr} {v : Value} (h : w.cell? p = some v) : m.to.cell? p = some v :=
  (m.bel.cell (block_lt_of_cell h)).trans h

set_option maxHeartbeats 400000 in
/-- what is best in a row -/
theorem best_any (l : List Bk) (a : Option Addr) (cap n : Nat) (g : Nat) (lb : Array Value) (fit : Bk → Bool) (g2 : Nat) (lb2 : Array Value) (bt : Bk → Bk → Bool) (w : World) (hr : Rg w a l) (hl : l.length = n)
    (eg : ∀ args w, (callFunc g args).run Try.prog w = .ok (.enter g args) w) (hp : PredOn g lb fit l w) (eg2 : ∀ args w, (callFunc g2 args).run Try.prog w = .ok (.enter g2 args) w) (hp2 : BetOn g2 lb2 bt l w) :
    Calls Try.prog 92 #[.slice a n cap, .func (.func g) #[] lb, .func (.func g2) #[] lb2] w fun e w' => e = .returned (.int .i64 (best fit bt l n)) ∧ Below w.heap.size w w' := by
  obtain ⟨hz, hm, hc⟩ := hr
  unfold maxLen at hm
  clear hz
  have HP := Lib.hid hp
  have HP2 := Lib.hid hp2
  have HL := Lib.hid hl
  have n1 : n ≤ 9223372036854775807 := by omega
  clear hp hp2 hl hm
  go_enter Try.func92, Try.ntmps92
  go_wp2_with fail
  go_loopw [7, 12] (fun f i wr => ∃ k : Nat, k ≤ n ∧ i = .int .i64 k ∧ Below w.heap.size w wr ∧ f = .int .i64 (best fit bt l k)) (fun _ i _ => n - (intOf i).toNat)
  case atStart => exact ⟨0, by omega, rfl, Below.refl _ _, rfl⟩
  case round =>
    obtain ⟨k, hk, rfl, hb, rfl⟩ := hrel
    by_cases hlt : k < n
    · have hkl : k < l.length := by rw [HL.out]; exact hlt
      rcases hc with rfl | ⟨b, off, rfl, hc⟩
      · simp at hkl
      obtain ⟨c0, c1, c2, c3⟩ := at_below (hc k hkl) hb
      obtain ⟨y, hy⟩ : ∃ y, l[k]! = y := ⟨_, rfl⟩
      rw [hy] at c0 c1 c2 c3
      have HC := Lib.hid hc
      have HY := Lib.hid hy
      have HB := Lib.hid hb
      clear hy hc hkl hb
      obtain ⟨st, lv, wr', nx⟩ := y
      have hbt := best_lt fit bt l k
      have hbg := best_ge fit bt l k
      obtain ⟨f, hf⟩ : ∃ f, best fit bt l k = f := ⟨_, rfl⟩
      rw [hf] at hbt hbg ⊢
      have HF := Lib.hid hf
      clear hf
      go_wp2_with fail
      have hbW : Below wr.heap.size wr (wr.alloc (.cells #[.int .i64 st, .int .i64 lv, .int .i64 wr', .int .i64 nx] 66)) := (Below.refl _ _).alloc (Nat.le_refl _) _
      have d0 : (wr.alloc (.cells #[.int .i64 st, .int .i64 lv, .int .i64 wr', .int .i64 nx] 66)).cell? ⟨wr.heap.size, 0, none⟩ = some (.int .i64 st) := by simp
      have d1 : (wr.alloc (.cells #[.int .i64 st, .int .i64 lv, .int .i64 wr', .int .i64 nx] 66)).cell? ⟨wr.heap.size, 1, none⟩ = some (.int .i64 lv) := by simp
      have d2 : (wr.alloc (.cells #[.int .i64 st, .int .i64 lv, .int .i64 wr', .int .i64 nx] 66)).cell? ⟨wr.heap.size, 2, none⟩ = some (.int .i64 wr') := by simp
      have d3 : (wr.alloc (.cells #[.int .i64 st, .int .i64 lv, .int .i64 wr', .int .i64 nx] 66)).cell? ⟨wr.heap.size, 3, none⟩ = some (.int .i64 nx) := by simp
      generalize wr.alloc (.cells #[.int .i64 st, .int .i64 lv, .int .i64 wr', .int .i64 nx] 66) = W at hbW d0 d1 d2 d3 ⊢
      have HBW := Lib.hid (HB.out.trans (hbW.mono HB.out.size))
      have HE := Lib.hid (fun m : Later W => HBW.out.trans (m.bel.mono HBW.out.size))
      have e0 := fun m : Later W => m.cell d0
      have e1 := fun m : Later W => m.cell d1
      have e2 := fun m : Later W => m.cell d2
      have e3 := fun m : Later W => m.cell d3
      have HS := Lib.hid (fun m : Later W => later_below (pred_step HP.out (HE.out m) k (by rw [HL.out]; exact hlt) _ HY.out))
      clear hbW d0 d1 d2 d3 c0 c1 c2 c3
      cases hq : fit ⟨st, lv, wr', nx⟩ with
      | false =>
        rw [hq] at HS
        have HN := Lib.hid (best_no (bt := bt) HY.out hq)
        clear hq
        refine wp_region_later (by kernel_rfl) (by kernel_rfl) ?_
        repeat (go_big_quiet_step (with_reducible first | exact HS.out _))
        refine wpQuiet_nil ?_
        rintro _ ⟨m, rfl⟩
        go_wp2
        go_roundw
        case rel => exact ⟨k + 1, by omega, by go_num, HE.out m, by rw [HN.out, HF.out]⟩
        case measure => simp [intOf]; omega
      | true =>
        rw [hq] at HS
        have HQ := Lib.hid hq
        clear hq
        by_cases h0 : f < 0
        · have HN := Lib.hid (best_yes HY.out HQ.out (by rw [HF.out]; exact h0))
          have t0 : decide (f < 0) = true := decide_eq_true h0
          clear hbg hbt
          refine wp_region_later (by kernel_rfl) (by kernel_rfl) ?_
          repeat (go_big_quiet_step (with_reducible first | exact HS.out _))
          refine wpQuiet_nil ?_
          rintro _ ⟨m, rfl⟩
          go_wp2
          go_roundw
          case rel => exact ⟨k + 1, by omega, by go_num, HE.out m, by rw [HN.out]⟩
          case measure => simp [intOf]; omega
        · obtain ⟨q, rfl⟩ : ∃ q : Nat, f = q := ⟨f.toNat, by omega⟩
          have hqk : q < k := by omega
          have hql : q < l.length := by rw [HL.out]; omega
          obtain ⟨x, hx⟩ : ∃ x, l[q]! = x := ⟨_, rfl⟩
          obtain ⟨g0, g1, g2', g3⟩ := at_below (HC.out q hql) HBW.out
          rw [hx] at g0 g1 g2' g3
          have HX := Lib.hid hx
          have HT := Lib.hid (fun m : Later W => later_below (bet_step HP2.out (HE.out m) k q (by rw [HL.out]; exact hlt) hql _ _ HY.out hx))
          have HN := Lib.hid (best_bt HY.out HQ.out HF.out hx)
          obtain ⟨st2, lv2, wr2, nx2⟩ := x
          have f0 := fun m : Later W => m.cell g0
          have f1 := fun m : Later W => m.cell g1
          have f2 := fun m : Later W => m.cell g2'
          have f3 := fun m : Later W => m.cell g3
          have t0 : decide ((q : Int) < 0) = false := decide_eq_false h0
          have hqn : q < n := by omega
          clear hx g0 g1 g2' g3 hbg hbt h0
          cases hb2 : bt ⟨st, lv, wr', nx⟩ ⟨st2, lv2, wr2, nx2⟩ with
          | true =>
            rw [hb2] at HT HN
            clear hb2
            refine wp_region_later (by kernel_rfl) (by kernel_rfl) ?_
            repeat (go_big_quiet_step (with_reducible first | exact HS.out _ | exact HT.out _))
            refine wpQuiet_nil ?_
            rintro _ ⟨m, rfl⟩
            go_wp2
            go_roundw
            case rel => exact ⟨k + 1, by omega, by go_num, HE.out m, by rw [HN.out]; rfl⟩
            case measure => simp [intOf]; omega
          | false =>
            rw [hb2] at HT HN
            clear hb2
            refine wp_region_later (by kernel_rfl) (by kernel_rfl) ?_
            repeat (go_big_quiet_step (with_reducible first | exact HS.out _ | exact HT.out _))
            refine wpQuiet_nil ?_
            rintro _ ⟨m, rfl⟩
            go_wp2
            go_roundw
            case rel => exact ⟨k + 1, by omega, by go_num, HE.out m, by rw [HN.out]; rfl⟩
            case measure => simp [intOf]; omega
    · have : k = n := by omega
      subst this
      go_wp2
      go_ret
      exact ⟨rfl, hb⟩

end Go.Proofs.Ytnnpdlebgfjihaa
