/-
  What the program looks for in a right row, as function values. Nothing of one statement alone stands here.
-/
import Derived.Test.YtnnpdlebgfjihaaGcLeast
import Derived.Deep.RegionHeld3
namespace Go.Proofs.Ytnnpdlebgfjihaa
open Go.RowKit Gcm Go.ChangeShapes

/-- a value that tells of the blocks of a row -/
def FitV (v : Value) (p : Bk → Bool) (l : List Bk) (w : World) : Prop :=
  ∃ g lb, v = .func (.func g) #[] lb ∧ (∀ args w, (callFunc g args).run Try.prog w = .ok (.enter g args) w) ∧ PredOn g lb p l w
def BetV (v : Value) (bt : Bk → Bk → Bool) (l : List Bk) (w : World) : Prop :=
  ∃ g lb, v = .func (.func g) #[] lb ∧ (∀ args w, (callFunc g args).run Try.prog w = .ok (.enter g args) w) ∧ BetOn g lb bt l w
theorem FitV.later {v : Value} {p : Bk → Bool} {l : List Bk} {w w' : World} (h : FitV v p l w) (hb : Below w.heap.size w w') : FitV v p l w' := by
  obtain ⟨g, lb, h1, h2, h3⟩ := h
  exact ⟨g, lb, h1, h2, h3.later hb⟩
theorem BetOn.later {g : Nat} {lb : Array Value} {bt : Bk → Bk → Bool} {l : List Bk} {w w' : World} (h : BetOn g lb bt l w) (hb : Below w.heap.size w w') : BetOn g lb bt l w' :=
  fun W x y hx hy hW => h W x y hx hy (hb.trans (hW.mono hb.size))

set_option maxHeartbeats 400000 in
theorem stale_on (l : List Bk) (w : World) : PredOn 105 #[] stale l w := fun W x _ _ => by
  obtain ⟨st, lv, wr, nx⟩ := x
  show Calls Try.prog 105 #[.agg #[.int .i64 st, .int .i64 lv, .int .i64 wr, .int .i64 nx]] W fun e w' => e = .returned (.bool (st == 3)) ∧ Below W.heap.size W w'
  go_enter Try.func105, Try.ntmps105
  go_wp2
  go_ret
  exact ⟨rfl, (Below.refl _ _).alloc (Nat.le_refl _) _⟩
set_option maxHeartbeats 400000 in
theorem full_on (l : List Bk) (w : World) : PredOn 106 #[] full l w := fun W x _ _ => by
  obtain ⟨st, lv, wr, nx⟩ := x
  show Calls Try.prog 106 #[.agg #[.int .i64 st, .int .i64 lv, .int .i64 wr, .int .i64 nx]] W fun e w' => e = .returned (.bool (st == 2)) ∧ Below W.heap.size W w'
  go_enter Try.func106, Try.ntmps106
  go_wp2
  go_ret
  exact ⟨rfl, (Below.refl _ _).alloc (Nat.le_refl _) _⟩
set_option maxHeartbeats 400000 in
theorem empty_on (l : List Bk) (w : World) : PredOn 108 #[] empty l w := fun W x _ _ => by
  obtain ⟨st, lv, wr, nx⟩ := x
  show Calls Try.prog 108 #[.agg #[.int .i64 st, .int .i64 lv, .int .i64 wr, .int .i64 nx]] W fun e w' => e = .returned (.bool (st == 0 || (st == 1 && nx == 0))) ∧ Below W.heap.size W w'
  have hbb : Below W.heap.size W (W.alloc (.cells #[.int .i64 st, .int .i64 lv, .int .i64 wr, .int .i64 nx] 66)) := (Below.refl _ _).alloc (Nat.le_refl _) _
  cases h0 : st == 0 with
  | true =>
    go_enter Try.func108, Try.ntmps108
    go_wp2
    go_ret
    exact ⟨rfl, hbb⟩
  | false =>
    cases h1 : st == 1 with
    | true =>
      go_enter Try.func108, Try.ntmps108
      go_wp2
      go_ret
      exact ⟨rfl, hbb⟩
    | false =>
      go_enter Try.func108, Try.ntmps108
      go_wp2
      go_ret
      exact ⟨rfl, hbb⟩

set_option maxHeartbeats 400000 in
theorem loose_on (l : List Bk) (p : Int) (w : World) (bf bp : Nat) (cf : w.cell? ⟨bf, 0, none⟩ = some (.func (.func 106) #[] #[])) (cp : w.cell? ⟨bp, 0, none⟩ = some (.int .i64 p)) :
    PredOn 107 #[.pointer (some ⟨bf, 0, none⟩), .pointer (some ⟨bp, 0, none⟩)] (loose p) l w := fun W x hx hb => by
  have lf := block_lt_of_cell cf
  have lp := block_lt_of_cell cp
  have cf' : W.cell? ⟨bf, 0, none⟩ = some (.func (.func 106) #[] #[]) := (hb.cell (p := ⟨bf, 0, none⟩) lf).trans cf
  have cp' : W.cell? ⟨bp, 0, none⟩ = some (.int .i64 p) := (hb.cell (p := ⟨bp, 0, none⟩) lp).trans cp
  have lfW : bf < W.heap.size := Nat.lt_of_lt_of_le lf hb.size
  have lpW : bp < W.heap.size := Nat.lt_of_lt_of_le lp hb.size
  have nf : bf ≠ W.heap.size := by omega
  have np : bp ≠ W.heap.size := by omega
  have HF := Lib.hid (fun (W' : World) => full_on l W' W' x hx (Below.refl _ _))
  obtain ⟨st, lv, wr, nx⟩ := x
  have e2 : full ⟨st, lv, wr, nx⟩ = (st == 2) := rfl
  rw [e2] at HF
  show Calls Try.prog 107 #[.agg #[.int .i64 st, .int .i64 lv, .int .i64 wr, .int .i64 nx], .pointer (some ⟨bf, 0, none⟩), .pointer (some ⟨bp, 0, none⟩)] W fun e w' => e = .returned (.bool (st == 2 && decide (lv < p))) ∧ Below W.heap.size W w'
  clear hb cf cp lf lp hx e2
  generalize (st == 2) = r at HF ⊢
  have ef := enters_go Try.func106 (by kernel_rfl) rfl
  have hbb : Below W.heap.size W (W.alloc (.cells #[.int .i64 st, .int .i64 lv, .int .i64 wr, .int .i64 nx] 66)) := (Below.refl _ _).alloc (Nat.le_refl _) _
  have d1 : (W.alloc (.cells #[.int .i64 st, .int .i64 lv, .int .i64 wr, .int .i64 nx] 66)).cell? ⟨W.heap.size, 1, none⟩ = some (.int .i64 lv) := by simp
  have dp : (W.alloc (.cells #[.int .i64 st, .int .i64 lv, .int .i64 wr, .int .i64 nx] 66)).cell? ⟨bp, 0, none⟩ = some (.int .i64 p) := (hbb.cell (p := ⟨bp, 0, none⟩) lpW).trans cp'
  cases r with
  | true =>
    go_enter Try.func107, Try.ntmps107
    go_wp2_with fail
    refine (HF.out _).mono ?_
    rintro e w' ⟨rfl, hb⟩
    have g1 := (hb.cell (block_lt_of_cell d1)).trans d1
    have gp := (hb.cell (block_lt_of_cell dp)).trans dp
    go_wp2
    go_ret
    exact ⟨rfl, hbb.trans (hb.mono (by simp))⟩
  | false =>
    go_enter Try.func107, Try.ntmps107
    go_wp2_with fail
    refine (HF.out _).mono ?_
    rintro e w' ⟨rfl, hb⟩
    go_wp2
    go_ret
    exact ⟨rfl, hbb.trans (hb.mono (by simp))⟩

set_option maxHeartbeats 400000 in
theorem may_on (l : List Bk) (m : Int) (w : World) (bm : Nat) (cm : w.cell? ⟨bm, 0, none⟩ = some (.int .i64 m)) (hw : ∀ x ∈ l, wrap64 (x.wr - m) = x.wr - m) :
    PredOn 109 #[.pointer (some ⟨bm, 0, none⟩)] (may m) l w := fun W x hx hb => by
  have lm := block_lt_of_cell cm
  have cm' : W.cell? ⟨bm, 0, none⟩ = some (.int .i64 m) := (hb.cell (p := ⟨bm, 0, none⟩) lm).trans cm
  have lmW : bm < W.heap.size := Nat.lt_of_lt_of_le lm hb.size
  have nm : bm ≠ W.heap.size := by omega
  have hwx := hw x hx
  obtain ⟨st, lv, wr, nx⟩ := x
  have HM := Lib.hid (fun (W' : World) => mayBeErased_any st lv wr nx m W' (Lib.hid hwx))
  show Calls Try.prog 109 #[.agg #[.int .i64 st, .int .i64 lv, .int .i64 wr, .int .i64 nx], .pointer (some ⟨bm, 0, none⟩)] W fun e w' => e = .returned (.bool (st != 4 && decide (wr - m < 4))) ∧ Below W.heap.size W w'
  clear hb cm lm hx hwx hw
  generalize (st != 4 && decide (wr - m < 4)) = r at HM ⊢
  go_enter Try.func109, Try.ntmps109
  go_wp2_with fail
  refine (HM.out _).mono ?_
  rintro e w' ⟨rfl, hb⟩
  go_wp2
  go_ret
  exact ⟨rfl, ((Below.refl _ _).alloc (Nat.le_refl _) _).trans (hb.mono (by simp))⟩

set_option maxHeartbeats 400000 in
theorem atLeast_on (l : List Bk) (m : Int) (w : World) (bm : Nat) (cm : w.cell? ⟨bm, 0, none⟩ = some (.int .i64 m)) :
    PredOn 111 #[.pointer (some ⟨bm, 0, none⟩)] (atLeast m) l w := fun W x hx hb => by
  have lm := block_lt_of_cell cm
  have cm' : W.cell? ⟨bm, 0, none⟩ = some (.int .i64 m) := (hb.cell (p := ⟨bm, 0, none⟩) lm).trans cm
  have lmW : bm < W.heap.size := Nat.lt_of_lt_of_le lm hb.size
  have nm : bm ≠ W.heap.size := by omega
  obtain ⟨st, lv, wr, nx⟩ := x
  show Calls Try.prog 111 #[.agg #[.int .i64 st, .int .i64 lv, .int .i64 wr, .int .i64 nx], .pointer (some ⟨bm, 0, none⟩)] W fun e w' => e = .returned (.bool (wr == m)) ∧ Below W.heap.size W w'
  clear hb cm lm hx
  go_enter Try.func111, Try.ntmps111
  go_wp2
  go_ret
  exact ⟨rfl, (Below.refl _ _).alloc (Nat.le_refl _) _⟩

set_option maxHeartbeats 400000 in
theorem both_on (l : List Bk) (p q : Bk → Bool) (w : World) (bp bq gp gq : Nat) (lp lq : Array Value) (cp : w.cell? ⟨bp, 0, none⟩ = some (.func (.func gp) #[] lp)) (cq : w.cell? ⟨bq, 0, none⟩ = some (.func (.func gq) #[] lq))
    (ep : ∀ args w, (callFunc gp args).run Try.prog w = .ok (.enter gp args) w) (eq : ∀ args w, (callFunc gq args).run Try.prog w = .ok (.enter gq args) w) (hp : PredOn gp lp p l w) (hq : PredOn gq lq q l w) :
    PredOn 113 #[.pointer (some ⟨bp, 0, none⟩), .pointer (some ⟨bq, 0, none⟩)] (fun b => p b && q b) l w := fun W x hx hb => by
  have kp := block_lt_of_cell cp
  have kq := block_lt_of_cell cq
  have cp' : W.cell? ⟨bp, 0, none⟩ = some (.func (.func gp) #[] lp) := (hb.cell (p := ⟨bp, 0, none⟩) kp).trans cp
  have cq' : W.cell? ⟨bq, 0, none⟩ = some (.func (.func gq) #[] lq) := (hb.cell (p := ⟨bq, 0, none⟩) kq).trans cq
  have kpW : bp < W.heap.size := Nat.lt_of_lt_of_le kp hb.size
  have kqW : bq < W.heap.size := Nat.lt_of_lt_of_le kq hb.size
  have np : bp ≠ W.heap.size := by omega
  have nq : bq ≠ W.heap.size := by omega
  have HP := Lib.hid (fun (W' : World) (hW : Below W.heap.size W W') => hp W' x hx (hb.trans (hW.mono hb.size)))
  have HQ := Lib.hid (fun (W' : World) (hW : Below W.heap.size W W') => hq W' x hx (hb.trans (hW.mono hb.size)))
  show Calls Try.prog 113 #[x.v, .pointer (some ⟨bp, 0, none⟩), .pointer (some ⟨bq, 0, none⟩)] W fun e w' => e = .returned (.bool (p x && q x)) ∧ Below W.heap.size W w'
  generalize p x = r at HP ⊢
  generalize q x = s at HQ ⊢
  unfold Bk.v at HP HQ ⊢
  obtain ⟨st, lv, wr, nx⟩ := x
  dsimp only at HP HQ ⊢
  clear hp hq hx hb cp cq kp kq
  have hbb : Below W.heap.size W (W.alloc (.cells #[.int .i64 st, .int .i64 lv, .int .i64 wr, .int .i64 nx] 66)) := (Below.refl _ _).alloc (Nat.le_refl _) _
  have d0 : (W.alloc (.cells #[.int .i64 st, .int .i64 lv, .int .i64 wr, .int .i64 nx] 66)).cell? ⟨W.heap.size, 0, none⟩ = some (.int .i64 st) := by simp
  have d1 : (W.alloc (.cells #[.int .i64 st, .int .i64 lv, .int .i64 wr, .int .i64 nx] 66)).cell? ⟨W.heap.size, 1, none⟩ = some (.int .i64 lv) := by simp
  have d2 : (W.alloc (.cells #[.int .i64 st, .int .i64 lv, .int .i64 wr, .int .i64 nx] 66)).cell? ⟨W.heap.size, 2, none⟩ = some (.int .i64 wr) := by simp
  have d3 : (W.alloc (.cells #[.int .i64 st, .int .i64 lv, .int .i64 wr, .int .i64 nx] 66)).cell? ⟨W.heap.size, 3, none⟩ = some (.int .i64 nx) := by simp
  have dq : (W.alloc (.cells #[.int .i64 st, .int .i64 lv, .int .i64 wr, .int .i64 nx] 66)).cell? ⟨bq, 0, none⟩ = some (.func (.func gq) #[] lq) := (hbb.cell (p := ⟨bq, 0, none⟩) kqW).trans cq'
  cases r with
  | true =>
    go_enter Try.func113, Try.ntmps113
    go_wp2_with fail
    refine (HP.out _ hbb).mono ?_
    rintro e w' ⟨rfl, hb⟩
    have g0 := (hb.cell (block_lt_of_cell d0)).trans d0
    have g1 := (hb.cell (block_lt_of_cell d1)).trans d1
    have g2 := (hb.cell (block_lt_of_cell d2)).trans d2
    have g3 := (hb.cell (block_lt_of_cell d3)).trans d3
    have gq' := (hb.cell (block_lt_of_cell dq)).trans dq
    have hb2 := hbb.trans (hb.mono (by simp))
    clear d0 d1 d2 d3 dq
    go_wp2_with fail
    refine (HQ.out _ hb2).mono ?_
    rintro e w'' ⟨rfl, hb3⟩
    go_wp2
    go_ret
    exact ⟨rfl, hb2.trans (hb3.mono hb2.size)⟩
  | false =>
    go_enter Try.func113, Try.ntmps113
    go_wp2_with fail
    refine (HP.out _ hbb).mono ?_
    rintro e w' ⟨rfl, hb⟩
    go_wp2
    go_ret
    exact ⟨rfl, hbb.trans (hb.mono (by simp))⟩

set_option maxHeartbeats 400000 in
theorem both_any (l : List Bk) (p q : Bk → Bool) (vp vq : Value) (w : World) (hp : FitV vp p l w) (hq : FitV vq q l w) :
    Calls Try.prog 112 #[vp, vq] w fun e w' => ∃ v, e = .returned v ∧ Hid (FitV v (fun b => p b && q b) l w') ∧ Below w.heap.size w w' := by
  obtain ⟨gp, lp, rfl, ep, hp⟩ := hp
  obtain ⟨gq, lq, rfl, eq, hq⟩ := hq
  have hb : Below w.heap.size w ((w.alloc (.cells #[.func (.func gp) #[] lp] 127)).alloc (.cells #[.func (.func gq) #[] lq] 127)) := ((Below.refl _ w).alloc (Nat.le_refl _) _).alloc (by simp) _
  have HO := Lib.hid (both_on l p q ((w.alloc (.cells #[.func (.func gp) #[] lp] 127)).alloc (.cells #[.func (.func gq) #[] lq] 127)) w.heap.size (w.heap.size + 1) gp gq lp lq (by simp) (by simp) ep eq (hp.later hb) (hq.later hb))
  clear ep eq hp hq
  go_enter Try.func112, Try.ntmps112
  go_wp2
  go_ret
  exact ⟨_, rfl, Lib.hid ⟨_, _, rfl, enters_go Try.func113 (by kernel_rfl) rfl, HO.out⟩, hb⟩
end Go.Proofs.Ytnnpdlebgfjihaa
