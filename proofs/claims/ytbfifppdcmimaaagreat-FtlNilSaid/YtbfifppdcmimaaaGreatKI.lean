/-
  What is looked for in a row of blocks by function values. Nothing of one statement alone stands here.
-/
import Derived.Test.YtbfifppdcmimaaaGreatKH
import Derived.RegionTactic
import Derived.Laws.StructEq
import Derived.Lib.SliceRun
namespace Go.Proofs.YtbfifppdcmimaaaGreat
open Go.RowKit Gcm Go.ChangeShapes

theorem pred_step {g : Nat} {lb : Array Value} {p : Bk → Bool} {l : List Bk} {w W : World} (h : PredOn g lb p l w) (hb : Below w.heap.size w W) (j : Nat) (hj : j < l.length) (y : Bk) (hy : l[j]! = y) :
    Calls Tryz.prog g (#[.agg #[.int .i64 y.st, .int .i64 y.lv, .int .i64 y.wr, .int .i64 y.nx]] ++ lb) W fun e w' => e = .returned (.bool (p y)) ∧ Below W.heap.size W w' := by
  subst hy
  exact h W _ (getB_mem l j hj) hb

/-- the place of the first of which a predicate holds -/
def idx (p : Bk → Bool) (l : List Bk) : Int := if l.any p then 0 else -1

set_option maxHeartbeats 400000 in
/-- whether a predicate holds of one of the first blocks -/
theorem indexFunc_any (l : List Bk) (a : Option Addr) (cap n : Nat) (g : Nat) (lb : Array Value) (p : Bk → Bool) (w : World) (hr : Rg w a l) (hl : l.length = n)
    (eg : ∀ args w, (callFunc g args).run Tryz.prog w = .ok (.enter g args) w) (hp : PredOn g lb p l w) :
    Calls Tryz.prog 139 #[.slice a n cap, .func (.func g) #[] lb] w fun e w' => (∃ k : Int, e = .returned (.int .i64 k) ∧ decide (0 ≤ k) = l.any p) ∧ Below w.heap.size w w' := by
  obtain ⟨hz, hm, hc⟩ := hr
  unfold maxLen at hm
  clear hz
  have HP := Lib.hid hp
  have HL := Lib.hid hl
  have n1 : n ≤ 9223372036854775807 := by omega
  clear hp hl hm
  go_enter Tryz.func139, Tryz.ntmps139
  go_wp2_with fail
  go_loopw [5, 8] (fun _ i wr => ∃ k : Nat, k ≤ n ∧ i = .int .i64 k ∧ Below w.heap.size w wr ∧ Hid (∀ j, j < k → p l[j]! = false)) (fun _ i _ => n - (intOf i).toNat)
  case atStart => exact ⟨0, by omega, rfl, Below.refl _ _, Lib.hid fun j hj => absurd hj (Nat.not_lt_zero _)⟩
  case round =>
    obtain ⟨k, hk, rfl, hb, hN⟩ := hrel
    by_cases hlt : k < n
    · have hkl : k < l.length := by rw [HL.out]; exact hlt
      rcases hc with rfl | ⟨b, off, rfl, hc⟩
      · simp at hkl
      obtain ⟨c0, c1, c2, c3⟩ := at_below (hc k hkl) hb
      obtain ⟨y, hy⟩ : ∃ y, l[k]! = y := ⟨_, rfl⟩
      rw [hy] at c0 c1 c2 c3
      have HS := Lib.hid (pred_step HP.out hb k hkl y hy)
      have HY := Lib.hid hy
      have HB := Lib.hid hb
      clear hy hc hkl hb
      obtain ⟨st, lv, wr', nx⟩ := y
      cases hq : p ⟨st, lv, wr', nx⟩ with
      | true =>
        rw [hq] at HS
        have HQ := Lib.hid hq
        clear hq
        go_wp2_with fail
        refine HS.out.mono ?_
        rintro e w' ⟨rfl, hb2⟩
        go_wp2
        go_ret
        refine ⟨⟨_, rfl, ?_⟩, HB.out.trans (hb2.mono HB.out.size)⟩
        have e1 : l.any p = true := List.any_eq_true.2 ⟨l[k]!, getB_mem l k (by rw [HL.out]; exact hlt), by rw [HY.out]; exact HQ.out⟩
        rw [e1]
        exact decide_eq_true (by omega)
      | false =>
        rw [hq] at HS
        have HQ := Lib.hid hq
        clear hq
        go_wp2_with fail
        refine HS.out.mono ?_
        rintro e w' ⟨rfl, hb2⟩
        have HB2 := Lib.hid hb2
        clear hb2
        go_wp2
        go_roundw
        case rel =>
          refine ⟨k + 1, by omega, by go_num, HB.out.trans (HB2.out.mono HB.out.size), Lib.hid fun j hj => ?_⟩
          by_cases e : j = k
          · subst e; rw [HY.out]; exact HQ.out
          · exact hN.out j (by omega)
        case measure => simp [intOf]; omega
    · have : k = n := by omega
      subst this
      go_wp2
      go_ret
      refine ⟨⟨_, rfl, ?_⟩, hb⟩
      have e1 : l.any p = false := by
        rw [List.any_eq_false]
        intro x hx
        obtain ⟨j, hj, rfl⟩ := mem_getB l x hx
        rw [hN.out j (by rw [← HL.out]; exact hj)]
        exact Bool.false_ne_true
      rw [e1]
      rfl

set_option maxHeartbeats 400000 in
theorem containsFunc_any (l : List Bk) (a : Option Addr) (cap n : Nat) (g : Nat) (lb : Array Value) (p : Bk → Bool) (w : World) (hr : Rg w a l) (hl : l.length = n)
    (eg : ∀ args w, (callFunc g args).run Tryz.prog w = .ok (.enter g args) w) (hp : PredOn g lb p l w) :
    Calls Tryz.prog 158 #[.slice a n cap, .func (.func g) #[] lb] w fun e w' => e = .returned (.bool (l.any p)) ∧ Below w.heap.size w w' := by
  have HI := Lib.hid (indexFunc_any l a cap n g lb p w hr hl eg hp)
  clear hr hl eg hp
  go_enter Tryz.func158, Tryz.ntmps158
  go_wp2_with fail
  refine HI.out.mono ?_
  rintro e w' ⟨⟨k, rfl, hk⟩, hb⟩
  have HK := Lib.hid hk
  have HB := Lib.hid hb
  clear hk hb HI
  go_wp2
  go_ret
  exact ⟨gbool HK.out, HB.out⟩

theorem any_rt (l : List Bk) (p : Int) (h1 : 1 ≤ p) (h2 : p ≤ 32) : (!l.any fun b => !decide (Rb p b)) = decide (Rt l p) := by
  refine gd ?_
  unfold Rt
  cases h : l.any fun b => !decide (Rb p b) with
  | true =>
    obtain ⟨x, hx, g⟩ := List.any_eq_true.1 h
    simp at g
    exact ⟨fun e => (by cases e), fun e => absurd (e.2 x hx) g⟩
  | false =>
    refine ⟨fun _ => ⟨⟨h1, h2⟩, fun b hb => ?_⟩, fun _ => rfl⟩
    have := List.any_eq_false.1 h b hb
    simpa using this

set_option maxHeartbeats 400000 in
/-- whether a row is right: the program's answer -/
theorem right_any (l : List Bk) (a : Option Addr) (cap n : Nat) (p : Int) (w : World) (hr : Rg w a l) (hl : l.length = n) :
    Calls Tryz.prog 152 #[.slice a n cap, .int .i64 p] w fun e w' => e = .returned (.bool (decide (Rt l p))) ∧ Below w.heap.size w w' := by
  have hbw : Below w.heap.size w (w.alloc (.cells #[.int .i64 p] 3)) := (Below.refl _ w).alloc (Nat.le_refl _) _
  by_cases h1 : p < 1
  · have hN := Lib.hid (show ¬ Rt l p from fun h => by have := h.1; omega)
    clear hr
    go_enter Tryz.func152, Tryz.ntmps152
    go_wp2
    go_ret
    exact ⟨gbool (decide_eq_false hN.out).symm, hbw⟩
  by_cases h2 : 32 < p
  · have hN := Lib.hid (show ¬ Rt l p from fun h => by have := h.1; omega)
    clear hr
    go_enter Tryz.func152, Tryz.ntmps152
    go_wp2
    go_ret
    exact ⟨gbool (decide_eq_false hN.out).symm, hbw⟩
  · have HC := Lib.hid (fun W (hW : Below w.heap.size w W) (hc : W.cell? ⟨w.heap.size, 0, none⟩ = some (.int .i64 p)) =>
      containsFunc_any l a cap n 159 #[.pointer (some ⟨w.heap.size, 0, none⟩)] (fun b => !decide (Rb p b)) W (hr.below hW) hl (enters_go Tryz.func159 (by kernel_rfl) rfl) (right1 l p (by omega) W _ hc))
    rw [← any_rt l p (by omega) (by omega)]
    generalize (l.any fun b => !decide (Rb p b)) = r at HC ⊢
    clear hr
    go_enter Tryz.func152, Tryz.ntmps152
    go_wp2_with fail
    refine (HC.out _ hbw (by simp)).mono ?_
    rintro e w' ⟨rfl, hb⟩
    go_wp2
    go_ret
    exact ⟨rfl, hbw.trans (hb.mono (by simp))⟩


/-- what a function value says of two blocks of a row -/
def BetOn (g : Nat) (lb : Array Value) (bt : Bk → Bk → Bool) (l : List Bk) (w : World) : Prop :=
  ∀ (W : World) (x y : Bk), x ∈ l → y ∈ l → Below w.heap.size w W → Calls Tryz.prog g (#[x.v, y.v] ++ lb) W fun e w' => e = .returned (.bool (bt x y)) ∧ Below W.heap.size W w'
theorem bet_step {g : Nat} {lb : Array Value} {bt : Bk → Bk → Bool} {l : List Bk} {w W : World} (h : BetOn g lb bt l w) (hb : Below w.heap.size w W) (j k : Nat) (hj : j < l.length) (hk : k < l.length) (x y : Bk) (hx : l[j]! = x) (hy : l[k]! = y) :
    Calls Tryz.prog g (#[.agg #[.int .i64 x.st, .int .i64 x.lv, .int .i64 x.wr, .int .i64 x.nx], .agg #[.int .i64 y.st, .int .i64 y.lv, .int .i64 y.wr, .int .i64 y.nx]] ++ lb) W fun e w' => e = .returned (.bool (bt x y)) ∧ Below W.heap.size W w' := by
  subst hx hy
  exact h W _ _ (getB_mem l j hj) (getB_mem l k hk) hb

theorem _root_.Go.Later.cell {w : World} (m : Later w) {p : Addr} {v : Value} (h : w.cell? p = some v) : m.to.cell? p = some v :=
  (m.bel.cell (block_lt_of_cell h)).trans h

set_option maxHeartbeats 400000 in
/-- what is best in a row -/
theorem best_any (l : List Bk) (a : Option Addr) (cap n : Nat) (g : Nat) (lb : Array Value) (fit : Bk → Bool) (g2 : Nat) (lb2 : Array Value) (bt : Bk → Bk → Bool) (w : World) (hr : Rg w a l) (hl : l.length = n)
    (eg : ∀ args w, (callFunc g args).run Tryz.prog w = .ok (.enter g args) w) (hp : PredOn g lb fit l w) (eg2 : ∀ args w, (callFunc g2 args).run Tryz.prog w = .ok (.enter g2 args) w) (hp2 : BetOn g2 lb2 bt l w) :
    Calls Tryz.prog 113 #[.slice a n cap, .func (.func g) #[] lb, .func (.func g2) #[] lb2] w fun e w' => e = .returned (.int .i64 (best fit bt l n)) ∧ Below w.heap.size w w' := by
  obtain ⟨hz, hm, hc⟩ := hr
  unfold maxLen at hm
  clear hz
  have HP := Lib.hid hp
  have HP2 := Lib.hid hp2
  have HL := Lib.hid hl
  have n1 : n ≤ 9223372036854775807 := by omega
  clear hp hp2 hl hm
  go_enter Tryz.func113, Tryz.ntmps113
  go_wp2_with fail
  go_loopw [7, 12] (fun f i wr => ∃ k : Nat, k ≤ n ∧ i = .int .i64 k ∧ Below w.heap.size w wr ∧ f = .int .i64 (best fit bt l k)) (fun _ i _ => n - (intOf i).toNat)
  case atStart => exact ⟨0, by omega, rfl, Below.refl _ _, rfl⟩
  case round =>
    obtain ⟨k, hk, rfl, hb, rfl⟩ := hrel
    by_cases hlt : k < n
    · have hkl : k < l.length := by rw [HL.out]; exact hlt
      rcases hc with rfl | ⟨b, off, rfl, hc⟩
      · simp at hkl
      obtain ⟨c0, c1, c2, c3⟩ := at_below (hc k hkl) hb
      obtain ⟨y, hy⟩ : ∃ y, l[k]! = y := ⟨_, rfl⟩
      rw [hy] at c0 c1 c2 c3
      have HC := Lib.hid hc
      have HY := Lib.hid hy
      have HB := Lib.hid hb
      clear hy hc hkl hb
      obtain ⟨st, lv, wr', nx⟩ := y
      have hbt := best_lt fit bt l k
      have hbg := best_ge fit bt l k
      obtain ⟨f, hf⟩ : ∃ f, best fit bt l k = f := ⟨_, rfl⟩
      rw [hf] at hbt hbg ⊢
      have HF := Lib.hid hf
      clear hf
      go_wp2_with fail
      have hbW : Below wr.heap.size wr (wr.alloc (.cells #[.int .i64 st, .int .i64 lv, .int .i64 wr', .int .i64 nx] 144)) := (Below.refl _ _).alloc (Nat.le_refl _) _
      have d0 : (wr.alloc (.cells #[.int .i64 st, .int .i64 lv, .int .i64 wr', .int .i64 nx] 144)).cell? ⟨wr.heap.size, 0, none⟩ = some (.int .i64 st) := by simp
      have d1 : (wr.alloc (.cells #[.int .i64 st, .int .i64 lv, .int .i64 wr', .int .i64 nx] 144)).cell? ⟨wr.heap.size, 1, none⟩ = some (.int .i64 lv) := by simp
      have d2 : (wr.alloc (.cells #[.int .i64 st, .int .i64 lv, .int .i64 wr', .int .i64 nx] 144)).cell? ⟨wr.heap.size, 2, none⟩ = some (.int .i64 wr') := by simp
      have d3 : (wr.alloc (.cells #[.int .i64 st, .int .i64 lv, .int .i64 wr', .int .i64 nx] 144)).cell? ⟨wr.heap.size, 3, none⟩ = some (.int .i64 nx) := by simp
      generalize wr.alloc (.cells #[.int .i64 st, .int .i64 lv, .int .i64 wr', .int .i64 nx] 144) = W at hbW d0 d1 d2 d3 ⊢
      have HBW := Lib.hid (HB.out.trans (hbW.mono HB.out.size))
      have HE := Lib.hid (fun m : Later W => HBW.out.trans (m.bel.mono HBW.out.size))
      have e0 := fun m : Later W => m.cell d0
      have e1 := fun m : Later W => m.cell d1
      have e2 := fun m : Later W => m.cell d2
      have e3 := fun m : Later W => m.cell d3
      have HS := Lib.hid (fun m : Later W => later_below (pred_step HP.out (HE.out m) k (by rw [HL.out]; exact hlt) _ HY.out))
      clear hbW d0 d1 d2 d3 c0 c1 c2 c3
      cases hq : fit ⟨st, lv, wr', nx⟩ with
      | false =>
        rw [hq] at HS
        have HN := Lib.hid (best_no (bt := bt) HY.out hq)
        clear hq
        refine wp_region_later (by kernel_rfl) (by kernel_rfl) ?_
        repeat (go_big_quiet_step (with_reducible first | exact HS.out _))
        refine wpQuiet_nil ?_
        rintro _ ⟨m, rfl⟩
        go_wp2
        go_roundw
        case rel => exact ⟨k + 1, by omega, by go_num, HE.out m, by rw [HN.out, HF.out]⟩
        case measure => simp [intOf]; omega
      | true =>
        rw [hq] at HS
        have HQ := Lib.hid hq
        clear hq
        by_cases h0 : f < 0
        · have HN := Lib.hid (best_yes HY.out HQ.out (by rw [HF.out]; exact h0))
          have t0 : decide (f < 0) = true := decide_eq_true h0
          clear hbg hbt
          refine wp_region_later (by kernel_rfl) (by kernel_rfl) ?_
          repeat (go_big_quiet_step (with_reducible first | exact HS.out _))
          refine wpQuiet_nil ?_
          rintro _ ⟨m, rfl⟩
          go_wp2
          go_roundw
          case rel => exact ⟨k + 1, by omega, by go_num, HE.out m, by rw [HN.out]⟩
          case measure => simp [intOf]; omega
        · obtain ⟨q, rfl⟩ : ∃ q : Nat, f = q := ⟨f.toNat, by omega⟩
          have hqk : q < k := by omega
          have hql : q < l.length := by rw [HL.out]; omega
          obtain ⟨x, hx⟩ : ∃ x, l[q]! = x := ⟨_, rfl⟩
          obtain ⟨g0, g1, g2', g3⟩ := at_below (HC.out q hql) HBW.out
          rw [hx] at g0 g1 g2' g3
          have HX := Lib.hid hx
          have HT := Lib.hid (fun m : Later W => later_below (bet_step HP2.out (HE.out m) k q (by rw [HL.out]; exact hlt) hql _ _ HY.out hx))
          have HN := Lib.hid (best_bt HY.out HQ.out HF.out hx)
          obtain ⟨st2, lv2, wr2, nx2⟩ := x
          have f0 := fun m : Later W => m.cell g0
          have f1 := fun m : Later W => m.cell g1
          have f2 := fun m : Later W => m.cell g2'
          have f3 := fun m : Later W => m.cell g3
          have t0 : decide ((q : Int) < 0) = false := decide_eq_false h0
          have hqn : q < n := by omega
          clear hx g0 g1 g2' g3 hbg hbt h0
          cases hb2 : bt ⟨st, lv, wr', nx⟩ ⟨st2, lv2, wr2, nx2⟩ with
          | true =>
            rw [hb2] at HT HN
            clear hb2
            refine wp_region_later (by kernel_rfl) (by kernel_rfl) ?_
            repeat (go_big_quiet_step (with_reducible first | exact HS.out _ | exact HT.out _))
            refine wpQuiet_nil ?_
            rintro _ ⟨m, rfl⟩
            go_wp2
            go_roundw
            case rel => exact ⟨k + 1, by omega, by go_num, HE.out m, by rw [HN.out]; rfl⟩
            case measure => simp [intOf]; omega
          | false =>
            rw [hb2] at HT HN
            clear hb2
            refine wp_region_later (by kernel_rfl) (by kernel_rfl) ?_
            repeat (go_big_quiet_step (with_reducible first | exact HS.out _ | exact HT.out _))
            refine wpQuiet_nil ?_
            rintro _ ⟨m, rfl⟩
            go_wp2
            go_roundw
            case rel => exact ⟨k + 1, by omega, by go_num, HE.out m, by rw [HN.out]; rfl⟩
            case measure => simp [intOf]; omega
    · have : k = n := by omega
      subst this
      go_wp2
      go_ret
      exact ⟨rfl, hb⟩

end Go.Proofs.YtbfifppdcmimaaaGreat

/-
  The least and the greatest Wear, what may be erased, what is counted: the program's answers. Nothing of one statement alone stands here.
-/
namespace Go.Proofs.YtbfifppdcmimaaaGreat
open Go.RowKit Gcm Go.ChangeShapes

set_option maxHeartbeats 400000 in
theorem lessWorn_any (a0 a1 a2 a3 b0 b1 b2 b3 : Int) (w : World) :
    Calls Tryz.prog 86 #[.agg #[.int .i64 a0, .int .i64 a1, .int .i64 a2, .int .i64 a3], .agg #[.int .i64 b0, .int .i64 b1, .int .i64 b2, .int .i64 b3]] w fun e w' => e = .returned (.bool (decide (a2 < b2))) ∧ Below w.heap.size w w' := by
  go_enter Tryz.func86, Tryz.ntmps86
  go_wp2
  go_ret
  exact ⟨rfl, ((Below.refl _ w).alloc (Nat.le_refl _) _).alloc (by simp) _⟩
theorem lw_on (l : List Bk) (w : World) : BetOn 86 #[] lw l w := fun W x y _ _ _ => lessWorn_any x.st x.lv x.wr x.nx y.st y.lv y.wr y.nx W

set_option maxHeartbeats 400000 in
theorem greater_any (a0 a1 a2 a3 b0 b1 b2 b3 : Int) (w : World) :
    Calls Tryz.prog 85 #[.agg #[.int .i64 a0, .int .i64 a1, .int .i64 a2, .int .i64 a3], .agg #[.int .i64 b0, .int .i64 b1, .int .i64 b2, .int .i64 b3]] w fun e w' => e = .returned (.bool (decide (b2 < a2))) ∧ Below w.heap.size w w' := by
  have H := Lib.hid (fun w => lessWorn_any b0 b1 b2 b3 a0 a1 a2 a3 w)
  generalize decide (b2 < a2) = r at H ⊢
  go_enter Tryz.func85, Tryz.ntmps85
  go_wp2_with fail
  refine (H.out _).mono ?_
  rintro e w' ⟨rfl, hb⟩
  go_wp2
  go_ret
  exact ⟨rfl, (((Below.refl _ w).alloc (Nat.le_refl _) _).alloc (by simp) _).trans (hb.mono (by simp; omega))⟩
theorem gw_on (l : List Bk) (w : World) : BetOn 85 #[] gw l w := fun W x y _ _ _ => greater_any x.st x.lv x.wr x.nx y.st y.lv y.wr y.nx W

set_option maxHeartbeats 400000 in
theorem lessLive_any (a0 a1 a2 a3 b0 b1 b2 b3 : Int) (w : World) :
    Calls Tryz.prog 169 #[.agg #[.int .i64 a0, .int .i64 a1, .int .i64 a2, .int .i64 a3], .agg #[.int .i64 b0, .int .i64 b1, .int .i64 b2, .int .i64 b3]] w fun e w' => e = .returned (.bool (decide (a1 < b1) || (a1 == b1 && decide (a2 < b2)))) ∧ Below w.heap.size w w' := by
  have hbb : Below w.heap.size w ((w.alloc (.cells #[.int .i64 a0, .int .i64 a1, .int .i64 a2, .int .i64 a3] 144)).alloc (.cells #[.int .i64 b0, .int .i64 b1, .int .i64 b2, .int .i64 b3] 144)) := ((Below.refl _ w).alloc (Nat.le_refl _) _).alloc (by simp) _
  have H := Lib.hid (fun w => lessWorn_any a0 a1 a2 a3 b0 b1 b2 b3 w)
  generalize decide (a2 < b2) = r at H ⊢
  by_cases c1 : a1 < b1
  · have d1 : decide (a1 < b1) = true := decide_eq_true c1
    rw [d1, Bool.true_or]
    clear c1
    go_enter Tryz.func169, Tryz.ntmps169
    go_wp2
    go_ret
    exact ⟨rfl, hbb⟩
  · have d1 : decide (a1 < b1) = false := decide_eq_false c1
    by_cases c2 : a1 = b1
    · have d2 : (a1 == b1) = true := by simp [c2]
      rw [d1, d2, Bool.false_or, Bool.true_and]
      clear c1 c2
      go_enter Tryz.func169, Tryz.ntmps169
      go_wp2_with fail
      refine (H.out _).mono ?_
      rintro e w' ⟨rfl, hb⟩
      go_wp2
      go_ret
      exact ⟨rfl, hbb.trans (hb.mono (by simp; omega))⟩
    · have d2 : (a1 == b1) = false := by simp [c2]
      rw [d1, d2, Bool.false_or, Bool.false_and]
      clear c1 c2
      go_enter Tryz.func169, Tryz.ntmps169
      go_wp2
      go_ret
      exact ⟨rfl, hbb⟩
theorem ll_on (l : List Bk) (w : World) : BetOn 169 #[] ll l w := fun W x y _ _ _ => lessLive_any x.st x.lv x.wr x.nx y.st y.lv y.wr y.nx W

set_option maxHeartbeats 400000 in
theorem good_any (a0 a1 a2 a3 : Int) (w : World) :
    Calls Tryz.prog 114 #[.agg #[.int .i64 a0, .int .i64 a1, .int .i64 a2, .int .i64 a3]] w fun e w' => e = .returned (.bool (a0 != 4)) ∧ Below w.heap.size w w' := by
  go_enter Tryz.func114, Tryz.ntmps114
  go_wp2
  go_ret
  exact ⟨rfl, (Below.refl _ w).alloc (Nat.le_refl _) _⟩
theorem good_on (l : List Bk) (w : World) : PredOn 114 #[] good l w := fun W x _ _ => good_any x.st x.lv x.wr x.nx W

set_option maxHeartbeats 400000 in
theorem wearOfBest_any (l : List Bk) (a : Option Addr) (cap n : Nat) (g : Nat) (lb : Array Value) (bt : Bk → Bk → Bool) (w : World) (hr : Rg w a l) (hl : l.length = n)
    (eg : ∀ args w, (callFunc g args).run Tryz.prog w = .ok (.enter g args) w) (hp : BetOn g lb bt l w) :
    Calls Tryz.prog 84 #[.slice a n cap, .func (.func g) #[] lb] w fun e w' => e = .returned (.int .i64 (wearAt bt l n)) ∧ Below w.heap.size w w' := by
  have HB := Lib.hid (best_any l a cap n 114 #[] good g lb bt w hr hl (enters_go Tryz.func114 (by kernel_rfl) rfl) (good_on l w) eg hp)
  have HR := Lib.hid hr
  have HL := Lib.hid hl
  have hlt := best_lt good bt l n
  have HW := Lib.hid (show wearAt bt l n = if best good bt l n < 0 then 0 else l[(best good bt l n).toNat]!.wr from rfl)
  generalize best good bt l n = k at HB hlt HW
  clear hr hl eg hp
  go_enter Tryz.func84, Tryz.ntmps84
  go_wp2_with fail
  refine HB.out.mono ?_
  rintro e w' ⟨rfl, hb⟩
  by_cases h0 : k < 0
  · have HW' := Lib.hid (HW.out.trans (if_pos h0))
    clear HW HB
    go_wp2
    go_ret
    exact ⟨gint HW'.out.symm, hb⟩
  · obtain ⟨q, rfl⟩ : ∃ q : Nat, k = q := ⟨k.toNat, by omega⟩
    have HW' := Lib.hid (HW.out.trans (if_neg h0))
    rw [Int.toNat_natCast] at HW'
    have hql : q < l.length := by rw [HL.out]; omega
    rcases HR.out.2.2 with rfl | ⟨b, off, rfl, hc⟩
    · simp at hql
    obtain ⟨c0, c1, c2, c3⟩ := at_below (hc q hql) hb
    generalize l[q]! = x at HW' c0 c1 c2 c3
    obtain ⟨st, lv, wr, nx⟩ := x
    have HB2 := Lib.hid hb
    have hqn : q < n := by omega
    clear hc HW HB HR hb c0 c1 c3 h0
    go_wp2
    go_ret
    exact ⟨gint HW'.out.symm, HB2.out⟩

set_option maxHeartbeats 400000 in
theorem least_any (l : List Bk) (a : Option Addr) (cap n : Nat) (w : World) (hr : Rg w a l) (hl : l.length = n) :
    Calls Tryz.prog 62 #[.slice a n cap] w fun e w' => e = .returned (.int .i64 (least l)) ∧ Below w.heap.size w w' := by
  have H := Lib.hid (wearOfBest_any l a cap n 86 #[] lw w hr hl (enters_go Tryz.func86 (by kernel_rfl) rfl) (lw_on l w))
  have e1 : wearAt lw l n = least l := by subst hl; rfl
  rw [e1] at H
  clear hr hl e1
  go_enter Tryz.func62, Tryz.ntmps62
  go_wp2_with fail
  refine H.out.mono ?_
  rintro e w' ⟨rfl, hb⟩
  go_wp2
  go_ret
  exact ⟨rfl, hb⟩

set_option maxHeartbeats 400000 in
theorem greatest_any (l : List Bk) (a : Option Addr) (cap n : Nat) (w : World) (hr : Rg w a l) (hl : l.length = n) :
    Calls Tryz.prog 61 #[.slice a n cap] w fun e w' => e = .returned (.int .i64 (greatest l)) ∧ Below w.heap.size w w' := by
  have H := Lib.hid (wearOfBest_any l a cap n 85 #[] gw w hr hl (enters_go Tryz.func85 (by kernel_rfl) rfl) (gw_on l w))
  have e1 : wearAt gw l n = greatest l := by subst hl; rfl
  rw [e1] at H
  clear hr hl e1
  go_enter Tryz.func61, Tryz.ntmps61
  go_wp2_with fail
  refine H.out.mono ?_
  rintro e w' ⟨rfl, hb⟩
  go_wp2
  go_ret
  exact ⟨rfl, hb⟩

theorem wrap_sub {a b : Int} (ha : 0 ≤ a ∧ a ≤ 1099511627776) (hb : 0 ≤ b ∧ b ≤ 1099511627776) : wrap64 (a - b) = a - b := IntWalk.wrap64_in _ ⟨by omega, by omega⟩

set_option maxHeartbeats 400000 in
theorem mayBeErased_any (a0 a1 a2 a3 m : Int) (w : World) (h : Hid (wrap64 (a2 - m) = a2 - m)) :
    Calls Tryz.prog 153 #[.agg #[.int .i64 a0, .int .i64 a1, .int .i64 a2, .int .i64 a3], .int .i64 m] w fun e w' => e = .returned (.bool (a0 != 4 && decide (a2 - m < 4))) ∧ Below w.heap.size w w' := by
  have hbb : Below w.heap.size w (w.alloc (.cells #[.int .i64 a0, .int .i64 a1, .int .i64 a2, .int .i64 a3] 144)) := (Below.refl _ w).alloc (Nat.le_refl _) _
  cases h4 : a0 != 4 with
  | false =>
    go_enter Tryz.func153, Tryz.ntmps153
    go_wp2
    go_ret
    exact ⟨rfl, hbb⟩
  | true =>
    go_enter Tryz.func153, Tryz.ntmps153
    go_wp2
    go_ret
    exact ⟨gbool (by rw [h.out]; rfl), hbb⟩

set_option maxRecDepth 100000 in
set_option maxHeartbeats 400000 in
theorem may_any (l : List Bk) (a : Option Addr) (cap n : Nat) (p k : Int) (w : World) (hr : Rg w a l) (hl : l.length = n) :
    Calls Tryz.prog 129 #[.slice a n cap, .int .i64 p, .int .i64 k] w fun e w' => e = .returned (.bool (mayAt l p k)) ∧ Below w.heap.size w w' := by
  have HR := Lib.hid (fun m : Later w => later_below (right_any l a cap n p m.to (hr.below m.bel) hl))
  by_cases hRt : Rt l p
  · rw [decide_eq_true hRt] at HR
    by_cases h0 : k < 0
    · have e1 := Lib.hid (mayAt_out (l := l) (p := p) (.inl h0))
      have t0 : decide (0 ≤ k) = false := by simp; omega
      clear hr hRt
      go_enter Tryz.func129, Tryz.ntmps129
      go_wp2_with fail
      refine wp_region_later (by kernel_rfl) (by kernel_rfl) ?_
      repeat (go_big_quiet_step (with_reducible first | exact HR.out _))
      refine wpQuiet_nil ?_
      rintro _ ⟨m, rfl⟩
      go_wp2
      go_ret
      exact ⟨gbool e1.out.symm, m.bel⟩
    · obtain ⟨q, rfl⟩ : ∃ q : Nat, k = q := ⟨k.toNat, by omega⟩
      have t0 : decide ((0 : Int) ≤ (q : Int)) = true := by simp
      by_cases hq : q < n
      · have hql : q < l.length := by omega
        have t1 : decide ((q : Int) < (n : Int)) = true := by simp; omega
        have HLe := Lib.hid (fun m : Later w => later_below (least_any l a cap n m.to (hr.below m.bel) hl))
        have e1 := Lib.hid (mayAt_in hRt hql)
        have hx := hRt.2 _ (getB_mem l q hql)
        have hw := wrap_sub (a := l[q]!.wr) (b := least l) (by unfold Rb at hx; omega) (least_bounds l p hRt)
        rcases hr.2.2 with rfl | ⟨b, off, rfl, hc⟩
        · simp at hql
        obtain ⟨c0, c1, c2, c3⟩ := hc q hql
        generalize l[q]! = x at e1 hw c0 c1 c2 c3
        generalize least l = le at HLe e1 hw
        obtain ⟨st, lv, wr, nx⟩ := x
        have f0 := fun m : Later w => m.cell c0
        have f1 := fun m : Later w => m.cell c1
        have f2 := fun m : Later w => m.cell c2
        have f3 := fun m : Later w => m.cell c3
        have HM := Lib.hid (fun m : Later w => later_below (mayBeErased_any st lv wr nx le m.to (Lib.hid hw)))
        have e2 : may le ⟨st, lv, wr, nx⟩ = (st != 4 && decide (wr - le < 4)) := rfl
        rw [e2] at e1
        have e3 := Lib.hid e1.out
        clear hr hRt hw hx hc c0 c1 c2 c3 e1 e2 h0
        generalize (st != 4 && decide (wr - le < 4)) = r at HM e3
        go_enter Tryz.func129, Tryz.ntmps129
        go_wp2_with fail
        refine wp_region_later (by kernel_rfl) (by kernel_rfl) ?_
        repeat (go_big_quiet_step (with_reducible first | exact HR.out _ | exact HLe.out _ | exact HM.out _))
        refine wpQuiet_nil ?_
        rintro _ ⟨m, rfl⟩
        go_wp2
        go_ret
        exact ⟨gbool e3.out.symm, m.bel⟩
      · have e1 := Lib.hid (mayAt_out (l := l) (p := p) (k := q) (.inr (by omega)))
        have t1 : decide ((q : Int) < (n : Int)) = false := by simp; omega
        clear hr hRt
        go_enter Tryz.func129, Tryz.ntmps129
        go_wp2_with fail
        refine wp_region_later (by kernel_rfl) (by kernel_rfl) ?_
        repeat (go_big_quiet_step (with_reducible first | exact HR.out _))
        refine wpQuiet_nil ?_
        rintro _ ⟨m, rfl⟩
        go_wp2
        go_ret
        exact ⟨gbool e1.out.symm, m.bel⟩
  · rw [decide_eq_false hRt] at HR
    have e1 := Lib.hid (mayAt_no (k := k) hRt)
    clear hr hRt
    go_enter Tryz.func129, Tryz.ntmps129
    go_wp2_with fail
    refine wp_region_later (by kernel_rfl) (by kernel_rfl) ?_
    repeat (go_big_quiet_step (with_reducible first | exact HR.out _))
    refine wpQuiet_nil ?_
    rintro _ ⟨m, rfl⟩
    go_wp2
    go_ret
    exact ⟨gbool e1.out.symm, m.bel⟩

set_option maxHeartbeats 400000 in
theorem count_any (l : List Bk) (a : Option Addr) (cap n : Nat) (s : Int) (w : World) (hr : Rg w a l) (hl : l.length = n) :
    Calls Tryz.prog 71 #[.slice a n cap, .int .i64 s] w fun e w' => e = .returned (.int .i64 (cnt s l n)) ∧ Below w.heap.size w w' := by
  obtain ⟨-, hm, hc⟩ := hr
  unfold maxLen at hm
  have n1 : n ≤ 9223372036854775807 := by omega
  have HL := Lib.hid hl
  clear hl hm
  go_enter Tryz.func71, Tryz.ntmps71
  go_wp2_with fail
  go_loopw [5, 10] (fun f i wr => ∃ k : Nat, k ≤ n ∧ i = .int .i64 k ∧ Below w.heap.size w wr ∧ f = .int .i64 (cnt s l k)) (fun _ i _ => n - (intOf i).toNat)
  case atStart => exact ⟨0, by omega, rfl, Below.refl _ _, rfl⟩
  case round =>
    obtain ⟨k, hk, rfl, hb, rfl⟩ := hrel
    by_cases hlt : k < n
    · have hkl : k < l.length := by rw [HL.out]; exact hlt
      rcases hc with rfl | ⟨b, off, rfl, hc⟩
      · simp at hkl
      obtain ⟨c0, c1, c2, c3⟩ := at_below (hc k hkl) hb
      obtain ⟨y, hy⟩ : ∃ y, l[k]! = y := ⟨_, rfl⟩
      rw [hy] at c0 c1 c2 c3
      have HN := Lib.hid (cnt_at (s := s) hy)
      have HB := Lib.hid (hb.trans (((Below.refl _ wr).alloc (Nat.le_refl _) (.cells #[.int .i64 y.st, .int .i64 y.lv, .int .i64 y.wr, .int .i64 y.nx] 144)).mono hb.size))
      clear hy hc hkl hb
      obtain ⟨st, lv, wr', nx⟩ := y
      cases hs : st == s with
      | true =>
        have HN' := Lib.hid (HN.out.trans (if_pos hs))
        generalize cnt s l k = c at HN'
        clear HN
        go_wp2
        go_roundw
        case rel => exact ⟨k + 1, by omega, by go_num, HB.out, by rw [HN'.out]⟩
        case measure => simp [intOf]; omega
      | false =>
        have HN' := Lib.hid (HN.out.trans (if_neg (by rw [hs]; exact Bool.false_ne_true)))
        generalize cnt s l k = c at HN'
        clear HN
        go_wp2
        go_roundw
        case rel => exact ⟨k + 1, by omega, by go_num, HB.out, by rw [HN'.out]⟩
        case measure => simp [intOf]; omega
    · have : k = n := by omega
      subst this
      go_wp2
      go_ret
      exact ⟨rfl, hb⟩

end Go.Proofs.YtbfifppdcmimaaaGreat

/-
  A row of blocks copied (the library's Clone), and one field of one block written over. Nothing of one statement alone stands here.
-/
namespace Gcm
/-- a block, one of its fields written over -/
def setf (b : Bk) : Nat → Int → Bk
  | 0, v => ⟨v, b.lv, b.wr, b.nx⟩
  | 1, v => ⟨b.st, v, b.wr, b.nx⟩
  | 2, v => ⟨b.st, b.lv, v, b.nx⟩
  | _, v => ⟨b.st, b.lv, b.wr, v⟩
end Gcm
namespace Go.Proofs.YtbfifppdcmimaaaGreat
open Go.RowKit Gcm Go.ChangeShapes

set_option maxRecDepth 100000 in
set_option maxHeartbeats 1000000 in
theorem bclone_any (l : List Bk) (b off cap n : Nat) (w : World) (hc : ∀ j, j < l.length → At w b (off + j * 4) l[j]!) (hl : l.length = n) (h0 : 0 < n) (h1 : n ≤ 1000000) :
    Calls Tryz.prog 110 #[.slice (some ⟨b, off, none⟩) n cap] w fun e w' => ∃ g c, e = .returned (.slice (some ⟨g, 0, none⟩) n c) ∧ w.heap.size ≤ g ∧ n ≤ c ∧ OwnB w' g l ∧ Below w.heap.size w w' := by
  have q22 : ∀ (w : World) (a : Option Addr) (n c n' c' : Nat), (binOp .eql 119 (.slice a n c) (.slice none n' c')).run Tryz.prog w = .ok (.bool a.isNone) w := fun w a n c n' c' => Lib.run_eql_slice_nil w _ _ a n c n' c' Tryz.underlying119
  have HC := Lib.hid hc
  clear hc
  go_enter Tryz.func110, Tryz.ntmps110
  go_wp2_with (at_builtin; refine append_blocks rfl _ _ rfl w.heap.size _ rfl (World.ownsRow_made w #[] 0 (Nat.le_refl _) (Nat.zero_le _) (by simp)) b off n cap l rfl hl h0 h1 (fun j hj => at_below (HC.out j hj) ((Below.refl _ _).alloc (Nat.le_refl _) _)) (by simp) ?_)
  intro g c w' hO hg hcap hb
  go_wp2
  go_ret
  exact ⟨g, c, rfl, hg, hcap, hO, ((Below.refl _ w).alloc (Nat.le_refl _) _).trans hb⟩

theorem OwnB.putf {w : World} {g : Nat} {l : List Bk} (h : OwnB w g l) (k i : Nat) (hk : k < l.length) (hi : i < 4) (v : Int) : OwnB (w.setCell ⟨g, k * 4 + i, none⟩ (.int .i64 v)) g (l.set k (setf l[k]! i v)) := by
  obtain ⟨cur, h1, h2⟩ := h
  refine ⟨_, h1.put (k * 4 + i) (.int .i64 v), fun j hj => ?_⟩
  rw [List.length_set] at hj
  rw [set_getB l k j _ hj]
  obtain ⟨d0, d1, d2, d3⟩ := h2 k hk
  have s0 := (Array.getElem?_eq_some_iff.1 d0).1
  have s1 := (Array.getElem?_eq_some_iff.1 d1).1
  have s2 := (Array.getElem?_eq_some_iff.1 d2).1
  have s3 := (Array.getElem?_eq_some_iff.1 d3).1
  obtain ⟨c0, c1, c2, c3⟩ := h2 j hj
  simp only [Array.getElem?_setIfInBounds]
  by_cases e : k = j
  · subst e
    have e1 : (if k = k then setf l[k]! i v else l[k]!) = setf l[k]! i v := if_pos rfl
    rw [e1]
    obtain rfl | rfl | rfl | rfl : i = 0 ∨ i = 1 ∨ i = 2 ∨ i = 3 := by omega
    all_goals
      refine ⟨?_, ?_, ?_, ?_⟩
      all_goals first
        | (rw [if_neg (by omega)]; first | exact c0 | exact c1 | exact c2 | exact c3)
        | (rw [if_pos (by omega), if_pos (by omega)]; rfl)
  · rw [if_neg e]
    refine ⟨?_, ?_, ?_, ?_⟩
    · rw [if_neg (by omega)]; exact c0
    · rw [if_neg (by omega)]; exact c1
    · rw [if_neg (by omega)]; exact c2
    · rw [if_neg (by omega)]; exact c3
theorem OwnB.far {w : World} {g : Nat} {l : List Bk} (h : OwnB w g l) {p : Addr} (hp : g ≠ p.block) (u : Value) : OwnB (w.setCell p u) g l := by
  obtain ⟨cur, h1, h2⟩ := h
  exact ⟨cur, h1.far hp u, h2⟩
theorem OwnB.kp {w w' : World} {g : Nat} {l : List Bk} (h : OwnB w g l) (hk : w'.heap[g]? = w.heap[g]?) : OwnB w' g l := by
  obtain ⟨cur, h1, h2⟩ := h
  exact ⟨cur, hk.trans h1, h2⟩
end Go.Proofs.YtbfifppdcmimaaaGreat
