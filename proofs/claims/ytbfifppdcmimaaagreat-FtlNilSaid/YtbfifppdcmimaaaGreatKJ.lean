/-
  What the program looks for in a right row, as function values. Nothing of one statement alone stands here.
-/
import Derived.Test.YtbfifppdcmimaaaGreatKI
import Derived.Test.YtbfifppdcmimaaaGreatKA
import Derived.Deep.RegionHeld3
import Derived.Laws.EntriesVeiled
import Derived.WalkMore
namespace Go.Proofs.YtbfifppdcmimaaaGreat
open Go.RowKit Gcm Go.ChangeShapes

/-- a value that tells of the blocks of a row -/
def FitV (v : Value) (p : Bk → Bool) (l : List Bk) (w : World) : Prop :=
  ∃ g lb, v = .func (.func g) #[] lb ∧ (∀ args w, (callFunc g args).run Tryz.prog w = .ok (.enter g args) w) ∧ PredOn g lb p l w
def BetV (v : Value) (bt : Bk → Bk → Bool) (l : List Bk) (w : World) : Prop :=
  ∃ g lb, v = .func (.func g) #[] lb ∧ (∀ args w, (callFunc g args).run Tryz.prog w = .ok (.enter g args) w) ∧ BetOn g lb bt l w
theorem FitV.later {v : Value} {p : Bk → Bool} {l : List Bk} {w w' : World} (h : FitV v p l w) (hb : Below w.heap.size w w') : FitV v p l w' := by
  obtain ⟨g, lb, h1, h2, h3⟩ := h
  exact ⟨g, lb, h1, h2, h3.later hb⟩
theorem BetOn.later {g : Nat} {lb : Array Value} {bt : Bk → Bk → Bool} {l : List Bk} {w w' : World} (h : BetOn g lb bt l w) (hb : Below w.heap.size w w') : BetOn g lb bt l w' :=
  fun W x y hx hy hW => h W x y hx hy (hb.trans (hW.mono hb.size))

set_option maxHeartbeats 400000 in
theorem stale_on (l : List Bk) (w : World) : PredOn 161 #[] stale l w := fun W x _ _ => by
  obtain ⟨st, lv, wr, nx⟩ := x
  show Calls Tryz.prog 161 #[.agg #[.int .i64 st, .int .i64 lv, .int .i64 wr, .int .i64 nx]] W fun e w' => e = .returned (.bool (st == 3)) ∧ Below W.heap.size W w'
  go_enter Tryz.func161, Tryz.ntmps161
  go_wp2
  go_ret
  exact ⟨rfl, (Below.refl _ _).alloc (Nat.le_refl _) _⟩
set_option maxHeartbeats 400000 in
theorem full_on (l : List Bk) (w : World) : PredOn 162 #[] full l w := fun W x _ _ => by
  obtain ⟨st, lv, wr, nx⟩ := x
  show Calls Tryz.prog 162 #[.agg #[.int .i64 st, .int .i64 lv, .int .i64 wr, .int .i64 nx]] W fun e w' => e = .returned (.bool (st == 2)) ∧ Below W.heap.size W w'
  go_enter Tryz.func162, Tryz.ntmps162
  go_wp2
  go_ret
  exact ⟨rfl, (Below.refl _ _).alloc (Nat.le_refl _) _⟩
set_option maxHeartbeats 400000 in
theorem empty_on (l : List Bk) (w : World) : PredOn 164 #[] empty l w := fun W x _ _ => by
  obtain ⟨st, lv, wr, nx⟩ := x
  show Calls Tryz.prog 164 #[.agg #[.int .i64 st, .int .i64 lv, .int .i64 wr, .int .i64 nx]] W fun e w' => e = .returned (.bool (st == 0 || (st == 1 && nx == 0))) ∧ Below W.heap.size W w'
  have hbb : Below W.heap.size W (W.alloc (.cells #[.int .i64 st, .int .i64 lv, .int .i64 wr, .int .i64 nx] 144)) := (Below.refl _ _).alloc (Nat.le_refl _) _
  cases h0 : st == 0 with
  | true =>
    go_enter Tryz.func164, Tryz.ntmps164
    go_wp2
    go_ret
    exact ⟨rfl, hbb⟩
  | false =>
    cases h1 : st == 1 with
    | true =>
      go_enter Tryz.func164, Tryz.ntmps164
      go_wp2
      go_ret
      exact ⟨rfl, hbb⟩
    | false =>
      go_enter Tryz.func164, Tryz.ntmps164
      go_wp2
      go_ret
      exact ⟨rfl, hbb⟩

set_option maxHeartbeats 400000 in
theorem loose_on (l : List Bk) (p : Int) (w : World) (bf bp : Nat) (cf : w.cell? ⟨bf, 0, none⟩ = some (.func (.func 162) #[] #[])) (cp : w.cell? ⟨bp, 0, none⟩ = some (.int .i64 p)) :
    PredOn 163 #[.pointer (some ⟨bf, 0, none⟩), .pointer (some ⟨bp, 0, none⟩)] (loose p) l w := fun W x hx hb => by
  have lf := block_lt_of_cell cf
  have lp := block_lt_of_cell cp
  have cf' : W.cell? ⟨bf, 0, none⟩ = some (.func (.func 162) #[] #[]) := (hb.cell (p := ⟨bf, 0, none⟩) lf).trans cf
  have cp' : W.cell? ⟨bp, 0, none⟩ = some (.int .i64 p) := (hb.cell (p := ⟨bp, 0, none⟩) lp).trans cp
  have lfW : bf < W.heap.size := Nat.lt_of_lt_of_le lf hb.size
  have lpW : bp < W.heap.size := Nat.lt_of_lt_of_le lp hb.size
  have nf : bf ≠ W.heap.size := by omega
  have np : bp ≠ W.heap.size := by omega
  have HF := Lib.hid (fun (W' : World) => full_on l W' W' x hx (Below.refl _ _))
  obtain ⟨st, lv, wr, nx⟩ := x
  have e2 : full ⟨st, lv, wr, nx⟩ = (st == 2) := rfl
  rw [e2] at HF
  show Calls Tryz.prog 163 #[.agg #[.int .i64 st, .int .i64 lv, .int .i64 wr, .int .i64 nx], .pointer (some ⟨bf, 0, none⟩), .pointer (some ⟨bp, 0, none⟩)] W fun e w' => e = .returned (.bool (st == 2 && decide (lv < p))) ∧ Below W.heap.size W w'
  clear hb cf cp lf lp hx e2
  generalize (st == 2) = r at HF ⊢
  have ef := enters_go Tryz.func162 (by kernel_rfl) rfl
  have hbb : Below W.heap.size W (W.alloc (.cells #[.int .i64 st, .int .i64 lv, .int .i64 wr, .int .i64 nx] 144)) := (Below.refl _ _).alloc (Nat.le_refl _) _
  have d1 : (W.alloc (.cells #[.int .i64 st, .int .i64 lv, .int .i64 wr, .int .i64 nx] 144)).cell? ⟨W.heap.size, 1, none⟩ = some (.int .i64 lv) := by simp
  have dp : (W.alloc (.cells #[.int .i64 st, .int .i64 lv, .int .i64 wr, .int .i64 nx] 144)).cell? ⟨bp, 0, none⟩ = some (.int .i64 p) := (hbb.cell (p := ⟨bp, 0, none⟩) lpW).trans cp'
  cases r with
  | true =>
    go_enter Tryz.func163, Tryz.ntmps163
    go_wp2_with fail
    refine (HF.out _).mono ?_
    rintro e w' ⟨rfl, hb⟩
    have g1 := (hb.cell (block_lt_of_cell d1)).trans d1
    have gp := (hb.cell (block_lt_of_cell dp)).trans dp
    go_wp2
    go_ret
    exact ⟨rfl, hbb.trans (hb.mono (by simp))⟩
  | false =>
    go_enter Tryz.func163, Tryz.ntmps163
    go_wp2_with fail
    refine (HF.out _).mono ?_
    rintro e w' ⟨rfl, hb⟩
    go_wp2
    go_ret
    exact ⟨rfl, hbb.trans (hb.mono (by simp))⟩

set_option maxHeartbeats 400000 in
theorem may_on (l : List Bk) (m : Int) (w : World) (bm : Nat) (cm : w.cell? ⟨bm, 0, none⟩ = some (.int .i64 m)) (hw : ∀ x ∈ l, wrap64 (x.wr - m) = x.wr - m) :
    PredOn 165 #[.pointer (some ⟨bm, 0, none⟩)] (may m) l w := fun W x hx hb => by
  have lm := block_lt_of_cell cm
  have cm' : W.cell? ⟨bm, 0, none⟩ = some (.int .i64 m) := (hb.cell (p := ⟨bm, 0, none⟩) lm).trans cm
  have lmW : bm < W.heap.size := Nat.lt_of_lt_of_le lm hb.size
  have nm : bm ≠ W.heap.size := by omega
  have hwx := hw x hx
  obtain ⟨st, lv, wr, nx⟩ := x
  have HM := Lib.hid (fun (W' : World) => mayBeErased_any st lv wr nx m W' (Lib.hid hwx))
  show Calls Tryz.prog 165 #[.agg #[.int .i64 st, .int .i64 lv, .int .i64 wr, .int .i64 nx], .pointer (some ⟨bm, 0, none⟩)] W fun e w' => e = .returned (.bool (st != 4 && decide (wr - m < 4))) ∧ Below W.heap.size W w'
  clear hb cm lm hx hwx hw
  generalize (st != 4 && decide (wr - m < 4)) = r at HM ⊢
  go_enter Tryz.func165, Tryz.ntmps165
  go_wp2_with fail
  refine (HM.out _).mono ?_
  rintro e w' ⟨rfl, hb⟩
  go_wp2
  go_ret
  exact ⟨rfl, ((Below.refl _ _).alloc (Nat.le_refl _) _).trans (hb.mono (by simp))⟩

set_option maxHeartbeats 400000 in
theorem atLeast_on (l : List Bk) (m : Int) (w : World) (bm : Nat) (cm : w.cell? ⟨bm, 0, none⟩ = some (.int .i64 m)) :
    PredOn 166 #[.pointer (some ⟨bm, 0, none⟩)] (atLeast m) l w := fun W x hx hb => by
  have lm := block_lt_of_cell cm
  have cm' : W.cell? ⟨bm, 0, none⟩ = some (.int .i64 m) := (hb.cell (p := ⟨bm, 0, none⟩) lm).trans cm
  have lmW : bm < W.heap.size := Nat.lt_of_lt_of_le lm hb.size
  have nm : bm ≠ W.heap.size := by omega
  obtain ⟨st, lv, wr, nx⟩ := x
  show Calls Tryz.prog 166 #[.agg #[.int .i64 st, .int .i64 lv, .int .i64 wr, .int .i64 nx], .pointer (some ⟨bm, 0, none⟩)] W fun e w' => e = .returned (.bool (wr == m)) ∧ Below W.heap.size W w'
  clear hb cm lm hx
  go_enter Tryz.func166, Tryz.ntmps166
  go_wp2
  go_ret
  exact ⟨rfl, (Below.refl _ _).alloc (Nat.le_refl _) _⟩

set_option maxHeartbeats 400000 in
theorem both_on (l : List Bk) (p q : Bk → Bool) (w : World) (bp bq gp gq : Nat) (lp lq : Array Value) (cp : w.cell? ⟨bp, 0, none⟩ = some (.func (.func gp) #[] lp)) (cq : w.cell? ⟨bq, 0, none⟩ = some (.func (.func gq) #[] lq))
    (ep : ∀ args w, (callFunc gp args).run Tryz.prog w = .ok (.enter gp args) w) (eq : ∀ args w, (callFunc gq args).run Tryz.prog w = .ok (.enter gq args) w) (hp : PredOn gp lp p l w) (hq : PredOn gq lq q l w) :
    PredOn 168 #[.pointer (some ⟨bp, 0, none⟩), .pointer (some ⟨bq, 0, none⟩)] (fun b => p b && q b) l w := fun W x hx hb => by
  have kp := block_lt_of_cell cp
  have kq := block_lt_of_cell cq
  have cp' : W.cell? ⟨bp, 0, none⟩ = some (.func (.func gp) #[] lp) := (hb.cell (p := ⟨bp, 0, none⟩) kp).trans cp
  have cq' : W.cell? ⟨bq, 0, none⟩ = some (.func (.func gq) #[] lq) := (hb.cell (p := ⟨bq, 0, none⟩) kq).trans cq
  have kpW : bp < W.heap.size := Nat.lt_of_lt_of_le kp hb.size
  have kqW : bq < W.heap.size := Nat.lt_of_lt_of_le kq hb.size
  have np : bp ≠ W.heap.size := by omega
  have nq : bq ≠ W.heap.size := by omega
  have HP := Lib.hid (fun (W' : World) (hW : Below W.heap.size W W') => hp W' x hx (hb.trans (hW.mono hb.size)))
  have HQ := Lib.hid (fun (W' : World) (hW : Below W.heap.size W W') => hq W' x hx (hb.trans (hW.mono hb.size)))
  show Calls Tryz.prog 168 #[x.v, .pointer (some ⟨bp, 0, none⟩), .pointer (some ⟨bq, 0, none⟩)] W fun e w' => e = .returned (.bool (p x && q x)) ∧ Below W.heap.size W w'
  generalize p x = r at HP ⊢
  generalize q x = s at HQ ⊢
  unfold Bk.v at HP HQ ⊢
  obtain ⟨st, lv, wr, nx⟩ := x
  dsimp only at HP HQ ⊢
  clear hp hq hx hb cp cq kp kq
  have hbb : Below W.heap.size W (W.alloc (.cells #[.int .i64 st, .int .i64 lv, .int .i64 wr, .int .i64 nx] 144)) := (Below.refl _ _).alloc (Nat.le_refl _) _
  have d0 : (W.alloc (.cells #[.int .i64 st, .int .i64 lv, .int .i64 wr, .int .i64 nx] 144)).cell? ⟨W.heap.size, 0, none⟩ = some (.int .i64 st) := by simp
  have d1 : (W.alloc (.cells #[.int .i64 st, .int .i64 lv, .int .i64 wr, .int .i64 nx] 144)).cell? ⟨W.heap.size, 1, none⟩ = some (.int .i64 lv) := by simp
  have d2 : (W.alloc (.cells #[.int .i64 st, .int .i64 lv, .int .i64 wr, .int .i64 nx] 144)).cell? ⟨W.heap.size, 2, none⟩ = some (.int .i64 wr) := by simp
  have d3 : (W.alloc (.cells #[.int .i64 st, .int .i64 lv, .int .i64 wr, .int .i64 nx] 144)).cell? ⟨W.heap.size, 3, none⟩ = some (.int .i64 nx) := by simp
  have dq : (W.alloc (.cells #[.int .i64 st, .int .i64 lv, .int .i64 wr, .int .i64 nx] 144)).cell? ⟨bq, 0, none⟩ = some (.func (.func gq) #[] lq) := (hbb.cell (p := ⟨bq, 0, none⟩) kqW).trans cq'
  cases r with
  | true =>
    go_enter Tryz.func168, Tryz.ntmps168
    go_wp2_with fail
    refine (HP.out _ hbb).mono ?_
    rintro e w' ⟨rfl, hb⟩
    have g0 := (hb.cell (block_lt_of_cell d0)).trans d0
    have g1 := (hb.cell (block_lt_of_cell d1)).trans d1
    have g2 := (hb.cell (block_lt_of_cell d2)).trans d2
    have g3 := (hb.cell (block_lt_of_cell d3)).trans d3
    have gq' := (hb.cell (block_lt_of_cell dq)).trans dq
    have hb2 := hbb.trans (hb.mono (by simp))
    clear d0 d1 d2 d3 dq
    go_wp2_with fail
    refine (HQ.out _ hb2).mono ?_
    rintro e w'' ⟨rfl, hb3⟩
    go_wp2
    go_ret
    exact ⟨rfl, hb2.trans (hb3.mono hb2.size)⟩
  | false =>
    go_enter Tryz.func168, Tryz.ntmps168
    go_wp2_with fail
    refine (HP.out _ hbb).mono ?_
    rintro e w' ⟨rfl, hb⟩
    go_wp2
    go_ret
    exact ⟨rfl, hbb.trans (hb.mono (by simp))⟩

set_option maxHeartbeats 400000 in
theorem both_any (l : List Bk) (p q : Bk → Bool) (vp vq : Value) (w : World) (hp : FitV vp p l w) (hq : FitV vq q l w) :
    Calls Tryz.prog 167 #[vp, vq] w fun e w' => ∃ v, e = .returned v ∧ Hid (FitV v (fun b => p b && q b) l w') ∧ Below w.heap.size w w' := by
  obtain ⟨gp, lp, rfl, ep, hp⟩ := hp
  obtain ⟨gq, lq, rfl, eq, hq⟩ := hq
  have hb : Below w.heap.size w ((w.alloc (.cells #[.func (.func gp) #[] lp] 176)).alloc (.cells #[.func (.func gq) #[] lq] 176)) := ((Below.refl _ w).alloc (Nat.le_refl _) _).alloc (by simp) _
  have HO := Lib.hid (both_on l p q ((w.alloc (.cells #[.func (.func gp) #[] lp] 176)).alloc (.cells #[.func (.func gq) #[] lq] 176)) w.heap.size (w.heap.size + 1) gp gq lp lq (by simp) (by simp) ep eq (hp.later hb) (hq.later hb))
  clear ep eq hp hq
  go_enter Tryz.func167, Tryz.ntmps167
  go_wp2
  go_ret
  exact ⟨_, rfl, Lib.hid ⟨_, _, rfl, enters_go Tryz.func168 (by kernel_rfl) rfl, HO.out⟩, hb⟩
end Go.Proofs.YtbfifppdcmimaaaGreat

/-
  What is to be done next with a row of blocks: the program's answer. Nothing of one statement alone stands here.
-/
namespace Go.Proofs.YtbfifppdcmimaaaGreat
open Go.RowKit Gcm Go.ChangeShapes

/-- what is looked for, as it lies in memory from a place on -/
def SrAt (w : World) (l : List Bk) (b off : Nat) (s : Sr) : Prop :=
  w.cell? ⟨b, off, none⟩ = some (.int .i64 s.kind) ∧ w.cell? ⟨b, off + 1, none⟩ = some (.bool s.room) ∧
  (∃ v, w.cell? ⟨b, off + 2, none⟩ = some v ∧ FitV v s.fit l w) ∧ ∃ v, w.cell? ⟨b, off + 3, none⟩ = some v ∧ BetV v s.bt l w

theorem old_cell {w : World} {o : Obj} {p : Addr} {v : Value} (h : w.cell? p = some v) : (w.alloc o).cell? p = some v :=
  (((Below.refl _ w).alloc (Nat.le_refl _) o).cell (block_lt_of_cell h)).trans h

theorem new_cell {w : World} {cs : Array Value} {t : TypeId} {j : Nat} {v : Value} (h : cs[j]? = some v) : (w.alloc (.cells cs t)).cell? ⟨w.heap.size, j, none⟩ = some v := by
  rw [cell_of_row _ w.heap.size j cs t (0, 0) (heap_alloc_new w _)]
  exact h

theorem both_held {W W' : World} {f : FuncId} {args : Array Value} {q : Addr} {u : Value} {p : Bk → Bool} {l : List Bk} (hc : W.cell? q = some u) (hb : Below W.heap.size W W')
    (h : Calls Tryz.prog f args W' fun e w' => ∃ v, e = .returned v ∧ Hid (FitV v p l w') ∧ Below W'.heap.size W' w') :
    Calls Tryz.prog f args W' fun e w' => ∃ g lb, e = .returned (.func (.func g) #[] lb) ∧ Hid (FitV (.func (.func g) #[] lb) p l w') ∧ Hid (Below W'.heap.size W' w') ∧ w'.cell? q = some u ∧ Below W.heap.size W w' :=
  h.mono fun _ _ ⟨v, he, hv, hb'⟩ => by
    obtain ⟨g, lb, rfl, h2⟩ := hv.out
    exact ⟨g, lb, he, hv, Lib.hid hb', ((hb.trans (hb'.mono hb.size)).cell (block_lt_of_cell hc)).trans hc, hb.trans (hb'.mono hb.size)⟩

set_option maxRecDepth 100000 in
set_option maxHeartbeats 1000000 in
theorem searches_any (l : List Bk) (p m : Int) (w : World) (hw : ∀ x ∈ l, wrap64 (x.wr - m) = x.wr - m) :
    Calls Tryz.prog 154 #[.int .i64 p, .int .i64 m] w fun e w' => ∃ b, e = .returned (.slice (some ⟨b, 0, none⟩) 6 6) ∧ (∀ i, i < 6 → SrAt w' l b (i * 4) (srs p m)[i]!) ∧ Below w.heap.size w w' := by
  obtain ⟨W, hWe⟩ : ∃ W, ((w.alloc (.cells #[.int .i64 p] 3)).alloc (.cells #[.int .i64 m] 3)).alloc (.cells #[.func (.func 162) #[] #[]] 176) = W := ⟨_, rfl⟩
  have hbW : Below w.heap.size w W := by rw [← hWe]; exact (((Below.refl _ w).alloc (Nat.le_refl _) _).alloc (by simp) _).alloc (by simp; omega) _
  have cp : W.cell? ⟨w.heap.size, 0, none⟩ = some (.int .i64 p) := by rw [← hWe]; exact old_cell (old_cell (by simp))
  have cm : W.cell? ⟨w.heap.size + 1, 0, none⟩ = some (.int .i64 m) := by rw [← hWe]; exact old_cell (by rw [show w.heap.size + 1 = (w.alloc (.cells #[.int .i64 p] 3)).heap.size by simp]; simp)
  have cf : W.cell? ⟨w.heap.size + 2, 0, none⟩ = some (.func (.func 162) #[] #[]) := by
    rw [← hWe]
    have e : w.heap.size + 2 = ((w.alloc (.cells #[.int .i64 p] 3)).alloc (.cells #[.int .i64 m] 3)).heap.size := by simp
    rw [e]
    generalize (w.alloc (.cells #[.int .i64 p] 3)).alloc (.cells #[.int .i64 m] 3) = w2
    simp
  have V1 := Lib.hid (show FitV (.func (.func 161) #[] #[]) stale l W from ⟨_, _, rfl, enters_go Tryz.func161 (by kernel_rfl) rfl, stale_on l W⟩)
  have V2 := Lib.hid (show FitV (.func (.func 162) #[] #[]) full l W from ⟨_, _, rfl, enters_go Tryz.func162 (by kernel_rfl) rfl, full_on l W⟩)
  have V3 := Lib.hid (show FitV (.func (.func 163) #[] #[.pointer (some ⟨w.heap.size + 2, 0, none⟩), .pointer (some ⟨w.heap.size, 0, none⟩)]) (loose p) l W from ⟨_, _, rfl, enters_go Tryz.func163 (by kernel_rfl) rfl, loose_on l p W _ _ cf cp⟩)
  have V4 := Lib.hid (show FitV (.func (.func 164) #[] #[]) empty l W from ⟨_, _, rfl, enters_go Tryz.func164 (by kernel_rfl) rfl, empty_on l W⟩)
  have V5 := Lib.hid (show FitV (.func (.func 165) #[] #[.pointer (some ⟨w.heap.size + 1, 0, none⟩)]) (may m) l W from ⟨_, _, rfl, enters_go Tryz.func165 (by kernel_rfl) rfl, may_on l m W _ cm hw⟩)
  have V6 := Lib.hid (show FitV (.func (.func 166) #[] #[.pointer (some ⟨w.heap.size + 1, 0, none⟩)]) (atLeast m) l W from ⟨_, _, rfl, enters_go Tryz.func166 (by kernel_rfl) rfl, atLeast_on l m W _ cm⟩)
  have B1 := Lib.hid (fun W' : World => show BetV (.func (.func 86) #[] #[]) lw l W' from ⟨_, _, rfl, enters_go Tryz.func86 (by kernel_rfl) rfl, lw_on l W'⟩)
  have B2 := Lib.hid (fun W' : World => show BetV (.func (.func 169) #[] #[]) ll l W' from ⟨_, _, rfl, enters_go Tryz.func169 (by kernel_rfl) rfl, ll_on l W'⟩)
  have C1 := Lib.hid (fun (W' : World) (hb : Below W.heap.size W W') => both_held cf hb (both_any l _ _ _ _ W' (V1.out.later hb) (V5.out.later hb)))
  have C2 := Lib.hid (fun (W' : World) (hb : Below W.heap.size W W') => both_held cf hb (both_any l _ _ _ _ W' (V3.out.later hb) (V5.out.later hb)))
  have C3 := Lib.hid (fun (W' : World) (hb : Below W.heap.size W W') => both_held cf hb (both_any l _ _ _ _ W' (V4.out.later hb) (V6.out.later hb)))
  have C4 := Lib.hid (fun (W' : World) (hb : Below W.heap.size W W') => both_held cf hb (both_any l _ _ _ _ W' (V2.out.later hb) (V6.out.later hb)))
  have e83 := enters_go Tryz.func167 (by kernel_rfl) rfl
  have HBW := Lib.hid hbW
  have HWE := Lib.hid hWe
  clear hw hWe cp cm hbW
  go_enter Tryz.func154, Tryz.ntmps154
  go_wp2_with fail
  rw [HWE.out]
  go_region_held3 (fun w' => w'.cell? ⟨w.heap.size + 2, 0, none⟩ = some (.func (.func 162) #[] #[]) ∧ Below W.heap.size W w')
    ((go_split_ands; refine ⟨?_, ?_⟩ <;> first | assumption | exact Below.drew (by assumption) | exact (Below.refl _ W).drew | exact Below.alloc (by assumption) (Below.size (by assumption)) _ | go_keep))
    (first
      | (go_at_call 167; refine (C1.out _ ?_).mono ?_; (go_split_ands; assumption); rintro e w1 ⟨g1, lb1, rfl, hv1, hk1, hc1, hb1⟩)
      | (go_at_call 167; refine (C2.out _ ?_).mono ?_; (go_split_ands; assumption); rintro e w2 ⟨g2, lb2, rfl, hv2, hk2, hc2, hb2⟩)
      | (go_at_call 167; refine (C3.out _ ?_).mono ?_; (go_split_ands; assumption); rintro e w3 ⟨g3, lb3, rfl, hv3, hk3, hc3, hb3⟩)
      | (go_at_call 167; refine (C4.out _ ?_).mono ?_; (go_split_ands; assumption); rintro e w4 ⟨g4, lb4, rfl, hv4, hk4, hc4, hb4⟩))
  go_wp2
  go_ret
  have k3 := Lib.hid (hk4.out)
  have k2 := Lib.hid (hk3.out.trans (hk4.out.mono hk3.out.size))
  have k1 := Lib.hid (hk2.out.trans (k2.out.mono hk2.out.size))
  refine ⟨w4.heap.size, rfl, ?_, ?_⟩
  · have hF := fun o => (Below.refl _ w4).alloc (Nat.le_refl _) o
    intro i hi
    match i, hi with
    | 0, _ => exact ⟨new_cell rfl, new_cell rfl, ⟨_, new_cell rfl, (hv1.out.later (k1.out.trans ((hF _).mono k1.out.size)))⟩, ⟨_, new_cell rfl, B1.out _⟩⟩
    | 1, _ => exact ⟨new_cell rfl, new_cell rfl, ⟨_, new_cell rfl, (hv2.out.later (k2.out.trans ((hF _).mono k2.out.size)))⟩, ⟨_, new_cell rfl, B2.out _⟩⟩
    | 2, _ => exact ⟨new_cell rfl, new_cell rfl, ⟨_, new_cell rfl, (hv3.out.later (k3.out.trans ((hF _).mono k3.out.size)))⟩, ⟨_, new_cell rfl, B1.out _⟩⟩
    | 3, _ => exact ⟨new_cell rfl, new_cell rfl, ⟨_, new_cell rfl, (hv4.out.later (hF _))⟩, ⟨_, new_cell rfl, B2.out _⟩⟩
    | 4, _ => exact ⟨new_cell rfl, new_cell rfl, ⟨_, new_cell rfl, (V1.out.later (hb4.trans ((hF _).mono hb4.size)))⟩, ⟨_, new_cell rfl, B1.out _⟩⟩
    | 5, _ => exact ⟨new_cell rfl, new_cell rfl, ⟨_, new_cell rfl, (V3.out.later (hb4.trans ((hF _).mono hb4.size)))⟩, ⟨_, new_cell rfl, B2.out _⟩⟩
    | i + 6, h => exact absurd h (by omega)
  · exact HBW.out.trans ((hb4.alloc hb4.size _).mono HBW.out.size)
end Go.Proofs.YtbfifppdcmimaaaGreat

/-
  What is to be done next with a row of blocks: the program's call Next. Nothing of one statement alone stands here.
-/
namespace Gcm
theorem look_at {room : Bool} {l : List Bk} {S : List Sr} {k : Nat} (hk : k < S.length) (hn : ∀ j, j < k → hit room l S[j]! = false) (hh : hit room l S[k]! = true) :
    look room l S = (S[k]!.kind, best S[k]!.fit S[k]!.bt l l.length) := by
  rcases look_cases room l S with ⟨_, h⟩ | ⟨i, hi, h1, h2, h3⟩
  · have := h S[k]! (by rw [getElem!_pos S k hk]; exact List.getElem_mem hk)
    rw [this] at hh; cases hh
  · rcases Nat.lt_trichotomy i k with h | h | h
    · rw [hn i h] at h2; cases h2
    · subst h; exact h3
    · rw [h1 k h] at hh; cases hh
theorem look_none {room : Bool} {l : List Bk} {S : List Sr} (hn : ∀ j, j < S.length → hit room l S[j]! = false) : look room l S = (0, -1) := by
  rcases look_cases room l S with ⟨h, _⟩ | ⟨i, hi, _, h2, _⟩
  · exact h
  · rw [hn i hi] at h2; cases h2
end Gcm
namespace Go.Proofs.YtbfifppdcmimaaaGreat
open Go.RowKit Gcm Go.ChangeShapes

/-- an action as a value -/
def av (x : Int × Int) : Value := .agg #[.int .i64 x.1, .int .i64 x.2]

set_option maxRecDepth 100000 in
set_option maxHeartbeats 1000000 in
theorem next_any (l : List Bk) (a : Option Addr) (cap n : Nat) (p : Int) (room : Bool) (w : World) (hr : Rg w a l) (hl : l.length = n) :
    Calls Tryz.prog 132 #[.slice a n cap, .int .i64 p, .bool room] w fun e w' => e = .returned (av (nxt l p room)) ∧ Below w.heap.size w w' := by
  obtain ⟨W0, hW0⟩ : ∃ W, (w.alloc (.cells #[.int .i64 0, .int .i64 0] 163)).alloc (.cells #[.int .i64 0, .int .i64 (-1)] 163) = W := ⟨_, rfl⟩
  have HW0 := Lib.hid hW0
  have B0 : Hid (Blk W0 w.heap.size 163 #[.int .i64 0, .int .i64 0]) := Lib.hid (by rw [← hW0]; exact (Blk.new w _ _).alloc _)
  have B1 : Hid (Blk W0 (w.heap.size + 1) 163 #[.int .i64 0, .int .i64 (-1)]) := Lib.hid (by
    have := Blk.new (w.alloc (.cells #[.int .i64 0, .int .i64 0] 163)) 163 #[.int .i64 0, .int .i64 (-1)]
    rw [hW0] at this
    simpa using this)
  have BB : Hid (Below w.heap.size w W0) := Lib.hid (by rw [← hW0]; exact ((Below.refl _ w).alloc (Nat.le_refl _) _).alloc (by simp) _)
  have HR := Lib.hid (right_any l a cap n p W0 (hr.below BB.out) hl)
  clear hW0
  by_cases hRt : Rt l p
  · rw [decide_eq_true hRt] at HR
    have HX := Lib.hid (nxt_look (room := room) hRt)
    have HLe := Lib.hid (fun W (hb : Below w.heap.size w W) => least_any l a cap n W (hr.below hb) hl)
    have HSe := Lib.hid (fun W => searches_any l p (least l) W (fun x hx => wrap_sub (by have := hRt.2 x hx; unfold Rb at this; omega) (least_bounds l p hRt)))
    have HBe := Lib.hid (fun W (hb : Below w.heap.size w W) g lb fit g2 lb2 bt eg hp eg2 hp2 => best_any l a cap n g lb fit g2 lb2 bt W (hr.below hb) hl eg hp eg2 hp2)
    have HL := Lib.hid hl
    generalize least l = m at HX HLe HSe
    clear hRt hr hl
    go_enter Tryz.func132, Tryz.ntmps132
    go_wp2_with fail
    go_step3
    go_wp2_with fail
    rw [HW0.out]
    refine HR.out.mono ?_
    rintro e w1 ⟨rfl, hb1⟩
    have BB1 := Lib.hid (BB.out.trans (hb1.mono BB.out.size))
    have B01 := Lib.hid (B0.out.below hb1 B0.out.lt)
    have B11 := Lib.hid (B1.out.below hb1 B1.out.lt)
    clear hb1 B0 B1 HR HW0
    go_wp2_with fail
    go_step3
    go_wp2_with fail
    refine (HLe.out _ BB1.out).mono ?_
    rintro e w2 ⟨rfl, hb2⟩
    have BB2 := Lib.hid (BB1.out.trans (hb2.mono BB1.out.size))
    have B02 := Lib.hid (B01.out.below hb2 B01.out.lt)
    have B12 := Lib.hid (B11.out.below hb2 B11.out.lt)
    clear hb2 B01 B11
    go_wp2_with fail
    refine (HSe.out _).mono ?_
    rintro e w3 ⟨b, rfl, hS, hb3⟩
    have BB3 := Lib.hid (BB2.out.trans (hb3.mono BB2.out.size))
    have B03 := Lib.hid (B02.out.below hb3 B02.out.lt)
    have B13 := Lib.hid (B12.out.below hb3 B12.out.lt)
    have HS := Lib.hid hS
    clear hb3 B02 B12 hS HLe HSe
    go_wp2_with fail
    go_loopw [22] (fun i wr => ∃ k : Nat, k ≤ 6 ∧ i = .int .i64 k ∧ Hid (Blk wr w.heap.size 163 #[.int .i64 0, .int .i64 0]) ∧ Hid (Blk wr (w.heap.size + 1) 163 #[.int .i64 0, .int .i64 (-1)]) ∧ Hid (Below w.heap.size w wr) ∧ Hid (Below w3.heap.size w3 wr) ∧ Hid (∀ j, j < k → hit room l (srs p m)[j]! = false)) (fun i _ => 6 - (intOf i).toNat)
    case atStart => exact ⟨0, by omega, rfl, B03, B13, BB3, Lib.hid (Below.refl _ _), Lib.hid fun j hj => absurd hj (Nat.not_lt_zero _)⟩
    case round =>
      obtain ⟨k, hk, rfl, D0, D1, DB, D3, hN⟩ := hrel
      by_cases hlt : k < 6
      · obtain ⟨q0, q1, ⟨vf, q2, hvf⟩, ⟨vb, q3, hvb⟩⟩ := HS.out k hlt
        obtain ⟨gf, lf, rfl, ef, pf⟩ := hvf
        obtain ⟨gb, lb, rfl, eb, pb⟩ := hvb
        have c0 := (D3.out.cell (block_lt_of_cell q0)).trans q0
        have c1 := (D3.out.cell (block_lt_of_cell q1)).trans q1
        have c2 := (D3.out.cell (block_lt_of_cell q2)).trans q2
        have c3 := (D3.out.cell (block_lt_of_cell q3)).trans q3
        have HLo := Lib.hid (fun h => look_at (room := room) (l := l) (S := srs p m) (k := k) hlt hN.out h)
        obtain ⟨sr, hsr⟩ : ∃ sr, (srs p m)[k]! = sr := ⟨_, rfl⟩
        have HSR := Lib.hid hsr
        rw [hsr] at c0 c1 pf pb HLo
        obtain ⟨kd, rm, ft, bt⟩ := sr
        have HBst := Lib.hid (fun W (hb : Below wr.heap.size wr W) => HBe.out W (DB.out.trans (hb.mono DB.out.size)) gf lf ft gb lb bt ef (pf.later (D3.out.trans (hb.mono D3.out.size))) eb (pb.later (D3.out.trans (hb.mono D3.out.size))))
        have hbox : Below wr.heap.size wr (wr.alloc (.cells #[.int .i64 kd, .bool rm, .func (.func gf) #[] lf, .func (.func gb) #[] lb] 204)) := (Below.refl _ _).alloc (Nat.le_refl _) _
        have hit0 : hit room l ⟨kd, rm, ft, bt⟩ = (!(rm && !room) && decide (0 ≤ best ft bt l n)) := by rw [← HL.out]; rfl
        have eL : best ft bt l l.length = best ft bt l n := by rw [HL.out]
        dsimp only at HLo c0 c1
        rw [eL] at HLo
        have hbl := best_lt ft bt l n
        generalize best ft bt l n = q at HBst hit0 HLo
        have H0 := Lib.hid hit0
        have hsz1 : w.heap.size + 1 < wr.heap.size := D1.out.lt
        clear q0 q1 q2 q3 pf pb hsr hit0 eL
        by_cases hskip : rm = true ∧ room = false
        · obtain ⟨rfl, rfl⟩ := hskip
          clear HBst
          go_wp2
          go_roundw
          case rel =>
            refine ⟨k + 1, by omega, by go_num, Lib.hid (D0.out.alloc _), Lib.hid (D1.out.alloc _), Lib.hid (DB.out.trans (hbox.mono DB.out.size)), Lib.hid (D3.out.trans (hbox.mono D3.out.size)), Lib.hid fun j hj => ?_⟩
            by_cases e : j = k
            · subst e; rw [HSR.out, H0.out]; rfl
            · exact hN.out j (by omega)
          case measure => simp [intOf]; omega
        · have hgo : rm = false ∨ (rm = true ∧ room = true) := by cases rm <;> cases room <;> simp_all
          have H1 : Hid (hit room l ⟨kd, rm, ft, bt⟩ = decide (0 ≤ q)) := Lib.hid (by rw [H0.out]; rcases hgo with rfl | ⟨rfl, rfl⟩ <;> simp)
          have E0 := Lib.hid (D0.out.alloc (.cells #[.int .i64 kd, .bool rm, .func (.func gf) #[] lf, .func (.func gb) #[] lb] 204))
          have E1 := Lib.hid (D1.out.alloc (.cells #[.int .i64 kd, .bool rm, .func (.func gf) #[] lf, .func (.func gb) #[] lb] 204))
          have EB := Lib.hid (Blk.new wr 204 #[.int .i64 kd, .bool rm, .func (.func gf) #[] lf, .func (.func gb) #[] lb])
          have HBX := Lib.hid hbox
          have HB1 := Lib.hid (HBst.out _ hbox)
          clear hskip H0 D0 D1 hbox HBst
          rcases hgo with rfl | ⟨rfl, rfl⟩
          all_goals
            go_wp2_with fail
            refine HB1.out.mono ?_
            rintro e w4 ⟨rfl, hb4⟩
            have F0 := Lib.hid (E0.out.below hb4 E0.out.lt)
            have F1 := Lib.hid (E1.out.below hb4 E1.out.lt)
            have FB := Lib.hid (EB.out.below hb4 EB.out.lt)
            have HB4 := Lib.hid (HBX.out.trans (hb4.mono HBX.out.size))
            clear hb4 E0 E1 EB HB1 c0 c1 c2 c3
            by_cases h0 : 0 ≤ q
            · have t0 : decide (0 ≤ q) = true := decide_eq_true h0
              have HX2 := Lib.hid (HX.out.trans (HLo.out (by rw [H1.out, t0])))
              have c0 := FB.out.cell 0
              have d0 := F1.out.cell 0
              have d1 := F1.out.cell 1
              have f0 := F1.out.frozen 0
              have f1 := F1.out.frozen 1
              have r0 := F0.out.cell 0
              have r1 := F0.out.cell 1
              have u0 := F0.out.frozen 0
              have u1 := F0.out.frozen 1
              simp at c0 d0 d1 r0 r1
              have X1 := Lib.hid (ov2_blk (a := kd) (b := q) F1.out)
              have X0 := Lib.hid (ov2_far (a := kd) (b := q) F0.out (by omega : w.heap.size ≠ w.heap.size + 1))
              have XB := Lib.hid (ov2_below (a := kd) (b := q) (DB.out.trans (HB4.out.mono DB.out.size)) (by omega : w.heap.size ≤ w.heap.size + 1))
              have X := ov2_blk (a := kd) (b := q) X0.out
              have XF := Lib.hid (ov2_below (a := kd) (b := q) XB.out (Nat.le_refl w.heap.size))
              have x0 := X.cell 0
              have x1 := X.cell 1
              simp at x0 x1
              unfold ov2 at x0 x1
              clear h0 HLo H1 X
              go_wp2
              rw [Exit.noGoto_ret]
              exact bodyPost_ret (v := av (kd, q)) (by simp [av, results, Tryz.results132, go_sem, x0, x1]) rfl ⟨by rw [HX2.out], XF.out⟩
            · have t0 : decide (0 ≤ q) = false := decide_eq_false h0
              clear HLo h0
              go_wp2
              go_roundw
              case rel =>
                refine ⟨k + 1, by omega, by go_num, F0, F1, Lib.hid (DB.out.trans (HB4.out.mono DB.out.size)), Lib.hid (D3.out.trans (HB4.out.mono D3.out.size)), Lib.hid fun j hj => ?_⟩
                by_cases e : j = k
                · subst e; rw [HSR.out, H1.out, t0]
                · exact hN.out j (by omega)
              case measure => simp [intOf]; omega
      · have hk6 : k = 6 := by omega
        subst hk6
        have HX2 := Lib.hid (HX.out.trans (look_none (fun j hj => hN.out j hj)))
        have c0 := D0.out.cell 0
        have c1 := D0.out.cell 1
        have g0 := D0.out.frozen 0
        have g1 := D0.out.frozen 1
        have d0 := D1.out.cell 0
        have d1 := D1.out.cell 1
        simp at c0 c1 d0 d1
        have X := ov2_blk (a := 0) (b := -1) D0.out
        have HB := Lib.hid (ov2_below (a := 0) (b := -1) DB.out (Nat.le_refl _))
        have x0 := X.cell 0
        have x1 := X.cell 1
        simp at x0 x1
        unfold ov2 at x0 x1
        clear X
        go_wp2
        rw [Exit.noGoto_ret]
        exact bodyPost_ret (v := av (0, -1)) (by simp [av, results, Tryz.results132, go_sem, x0, x1]) rfl ⟨by rw [HX2.out], HB.out⟩
  · rw [decide_eq_false hRt] at HR
    have HX := Lib.hid (nxt_no (room := room) hRt)
    clear hRt hr hl
    go_enter Tryz.func132, Tryz.ntmps132
    go_wp2_with fail
    go_step3
    go_wp2_with fail
    rw [HW0.out]
    refine HR.out.mono ?_
    rintro e w1 ⟨rfl, hb1⟩
    have B01 := Lib.hid (B0.out.below hb1 B0.out.lt)
    have B11 := Lib.hid (B1.out.below hb1 B1.out.lt)
    have c0 := B01.out.cell 0
    have c1 := B01.out.cell 1
    have g0 := B01.out.frozen 0
    have g1 := B01.out.frozen 1
    have d0 := B11.out.cell 0
    have d1 := B11.out.cell 1
    simp at c0 c1 d0 d1
    have X := ov2_blk (a := 0) (b := -1) B01.out
    have HB := Lib.hid (ov2_below (a := 0) (b := -1) (BB.out.trans (hb1.mono BB.out.size)) (Nat.le_refl _))
    have x0 := X.cell 0
    have x1 := X.cell 1
    simp at x0 x1
    unfold ov2 at x0 x1
    clear hb1 X
    go_wp2
    rw [Exit.noGoto_ret]
    exact bodyPost_ret (v := av (0, -1)) (by simp [av, results, Tryz.results132, go_sem, x0, x1]) rfl ⟨by rw [HX.out], HB.out⟩
end Go.Proofs.YtbfifppdcmimaaaGreat
