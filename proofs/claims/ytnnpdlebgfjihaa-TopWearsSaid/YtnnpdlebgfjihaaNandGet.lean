/-
  What a chip tells: the program's calls that only read, of a chip and of none. Nothing of one statement alone stands here.
-/
import Derived.Test.YtnnpdlebgfjihaaNandMem
namespace Go.Proofs.Ytnnpdlebgfjihaa
open Go.RowKit Crcm Go.ChangeShapes

theorem bret {a b : Bool} (h : a = b) : Ending.returned (.bool a) = .returned (.bool b) := by rw [h]
/-- a chip's address -/
abbrev Own.p (o : Own) : Value := .pointer (some ⟨o.bc, 0, none⟩)
/-- the address of one of its blocks -/
abbrev Own.q (o : Own) (k : Nat) : Value := .pointer (some ⟨o.bb, k * 4, none⟩)

set_option maxRecDepth 100000 in
theorem up_any {w : World} {X : Nat → Prop} {o : Own} {c : Ch} (h : ChAt w X o c) :
    Calls Try.prog 53 #[o.p] w fun e w' => e = .returned (.bool c.up) ∧ w = w' := by
  obtain ⟨-, -, -, -, c4, -⟩ := h.cell
  clear h
  go_enter Try.func53, Try.ntmps53
  go_wp2
  go_ret
  exact ⟨rfl, rfl⟩
theorem cell_alloc {w : World} {p : Addr} {v : Value} (h : w.cell? p = some v) (ob : Obj) : (w.alloc ob).cell? p = some v :=
  (((Below.refl w.heap.size w).alloc (Nat.le_refl _) ob).cell (block_lt_of_cell h)).trans h
set_option maxRecDepth 100000 in
theorem geo_any {w : World} {X : Nat → Prop} {o : Own} {c : Ch} (h : ChAt w X o c) :
    Calls Try.prog 36 #[o.p] w fun e w' => e = .returned (.agg #[.int .i64 c.nb, .int .i64 c.np, .int .i64 c.sz]) ∧ Below w.heap.size w w' := by
  obtain ⟨c0, c1, c2, -⟩ := h.cell
  have d0 := cell_alloc c0
  have d1 := cell_alloc c1
  have d2 := cell_alloc c2
  clear h c0 c1 c2
  go_enter Try.func36, Try.ntmps36
  go_wp2
  exact bodyPost_ret (v := .agg #[.int .i64 c.nb, .int .i64 c.np, .int .i64 c.sz]) (by simp [results, Try.results36, go_sem]) rfl ⟨rfl, (Below.refl _ _).alloc (Nat.le_refl _) _⟩
set_option maxRecDepth 100000 in
theorem width_any {w : World} {X : Nat → Prop} {o : Own} {c : Ch} (h : ChAt w X o c) :
    Calls Try.prog 51 #[o.p] w fun e w' => e = .returned (.int .i64 ((c.sz + 32 : Nat) : Int)) ∧ w = w' := by
  obtain ⟨-, -, c2, -⟩ := h.cell
  have g := h.good
  unfold Gd at g
  have z0 : c.sz ≤ 512 := by omega
  clear h g
  go_enter Try.func51, Try.ntmps51
  go_wp2
  go_ret
  exact ⟨by simp, rfl⟩
set_option maxRecDepth 100000 in
/-- the block of a number -/
theorem block_no {w : World} {X : Nat → Prop} {o : Own} {c : Ch} (h : ChAt w X o c) (k : Int) (hk : k < 0 ∨ c.nb ≤ k) :
    Calls Try.prog 85 #[o.p, .int .i64 k] w fun e w' => e = .returned (.pointer none) ∧ w = w' := by
  obtain ⟨-, -, -, c3, -⟩ := h.cell
  clear h
  by_cases h0 : k < 0
  · have t0 : decide (k < 0) = true := decide_eq_true h0
    clear h0 hk
    go_enter Try.func85, Try.ntmps85
    go_wp2
    go_ret
    exact ⟨rfl, rfl⟩
  · have t0 : decide (k < 0) = false := decide_eq_false h0
    have t1 : decide ((c.nb : Int) ≤ k) = true := decide_eq_true (by omega)
    clear h0 hk
    go_enter Try.func85, Try.ntmps85
    go_wp2
    go_ret
    exact ⟨rfl, rfl⟩
set_option maxRecDepth 100000 in
theorem block_yes {w : World} {X : Nat → Prop} {o : Own} {c : Ch} (h : ChAt w X o c) (k : Nat) (hk : k < c.nb) :
    Calls Try.prog 85 #[o.p, .int .i64 k] w fun e w' => e = .returned (o.q k) ∧ w = w' := by
  obtain ⟨-, -, -, c3, -⟩ := h.cell
  clear h
  have t0 : decide ((k : Int) < 0) = false := decide_eq_false (by omega)
  have t1 : decide ((c.nb : Int) ≤ (k : Int)) = false := decide_eq_false (by omega)
  have k0 : (0 : Int) ≤ (k : Int) := by omega
  have k1 : (k : Int) < (c.nb : Int) := by omega
  clear hk
  go_enter Try.func85, Try.ntmps85
  go_wp2
  go_ret
  exact ⟨by simp, rfl⟩

/-- what a block of a chip that is asked for answers (0: it is there) -/
def reE (c : Ch) (k : Int) : Int := if c.up then (if k < 0 ∨ c.nb ≤ k then 12 else 0) else 4
theorem reE_zero {c : Ch} {k : Int} (h : reE c k = 0) : c.up = true ∧ 0 ≤ k ∧ k < c.nb := by
  unfold reE at h
  split at h
  · split at h
    · cases h
    · exact ⟨by assumption, by omega, by omega⟩
  · cases h
theorem reE_yes {c : Ch} {k : Nat} (h : c.up = true) (hk : k < c.nb) : reE c k = 0 := by
  unfold reE; rw [if_pos h, if_neg (by omega)]

set_option maxRecDepth 100000 in
theorem reach_no {w : World} {X : Nat → Prop} {o : Own} {c : Ch} (h : ChAt w X o c) (k : Int) (hk : reE c k ≠ 0) :
    Calls Try.prog 84 #[o.p, .int .i64 k] w fun e w' => e = .returned (.tuple #[.pointer none, .int .i64 (reE c k)]) ∧ w = w' := by
  obtain ⟨-, -, -, -, c4, -⟩ := h.cell
  cases hu : c.up with
  | false =>
    have e : reE c k = 4 := by unfold reE; rw [hu]; rfl
    rw [e]
    rw [hu] at c4
    clear h hk e
    go_enter Try.func84, Try.ntmps84
    go_wp2
    go_ret2
    exact ⟨rfl, rfl⟩
  | true =>
    have hn : k < 0 ∨ (c.nb : Int) ≤ k := by
      refine Classical.byContradiction fun g => hk ?_
      unfold reE; rw [if_pos hu, if_neg g]
    have e : reE c k = 12 := by unfold reE; rw [if_pos hu, if_pos hn]
    rw [e]
    rw [hu] at c4
    have HB := Lib.hid (block_no h k hn)
    clear h hk e hn
    go_enter Try.func84, Try.ntmps84
    go_wp2_with fail
    refine HB.out.mono ?_
    rintro r w' ⟨rfl, rfl⟩
    go_wp2
    go_ret2
    exact ⟨rfl, rfl⟩
set_option maxRecDepth 100000 in
theorem reach_yes {w : World} {X : Nat → Prop} {o : Own} {c : Ch} (h : ChAt w X o c) (k : Nat) (hk : reE c k = 0) :
    Calls Try.prog 84 #[o.p, .int .i64 k] w fun e w' => e = .returned (.tuple #[o.q k, .int .i64 0]) ∧ w = w' := by
  obtain ⟨-, -, -, -, c4, -⟩ := h.cell
  obtain ⟨hu, -, h1⟩ := reE_zero hk
  rw [hu] at c4
  have HB := Lib.hid (block_yes h k (by omega))
  clear h hk hu h1
  go_enter Try.func84, Try.ntmps84
  go_wp2_with fail
  refine HB.out.mono ?_
  rintro r w' ⟨rfl, rfl⟩
  go_wp2
  go_ret2
  exact ⟨rfl, rfl⟩
/-- what a page of a chip that is asked for answers (0: it is there) -/
def rpE (c : Ch) (k page : Int) : Int := if reE c k = 0 then (if page < 0 ∨ c.np ≤ page then 12 else 0) else reE c k
theorem rpE_zero {c : Ch} {k page : Int} (h : rpE c k page = 0) : reE c k = 0 ∧ 0 ≤ page ∧ page < c.np := by
  unfold rpE at h
  split at h
  · split at h
    · cases h
    · exact ⟨by assumption, by omega, by omega⟩
  · exact absurd h (by assumption)

set_option maxRecDepth 100000 in
theorem reachPage_no {w : World} {X : Nat → Prop} {o : Own} {c : Ch} (h : ChAt w X o c) (k page : Int) (hk : rpE c k page ≠ 0) :
    Calls Try.prog 49 #[o.p, .int .i64 k, .int .i64 page] w fun e w' => e = .returned (.tuple #[.pointer none, .int .i64 (rpE c k page)]) ∧ w = w' := by
  by_cases h0 : reE c k = 0
  · have hn : page < 0 ∨ (c.np : Int) ≤ page := by
      refine Classical.byContradiction fun g => hk ?_
      unfold rpE; rw [if_pos h0, if_neg g]
    have e : rpE c k page = 12 := by unfold rpE; rw [if_pos h0, if_pos hn]
    obtain ⟨k, rfl⟩ : ∃ n : Nat, k = n := ⟨k.toNat, by have := (reE_zero h0).2.1; omega⟩
    rw [e]
    obtain ⟨b0, -⟩ := h.bcell (k := k) (by have := (reE_zero h0).2.2; omega)
    have HR := Lib.hid (reach_yes h k h0)
    clear h hk e h0
    by_cases hp : page < 0
    · have t0 : decide (page < 0) = true := decide_eq_true hp
      clear hn hp
      go_enter Try.func49, Try.ntmps49
      go_wp2_with fail
      refine HR.out.mono ?_
      rintro r w' ⟨rfl, rfl⟩
      go_wp2
      go_ret2
      exact ⟨rfl, rfl⟩
    · have t0 : decide (page < 0) = false := decide_eq_false hp
      have t1 : decide ((c.np : Int) ≤ page) = true := decide_eq_true (by omega)
      clear hn hp
      go_enter Try.func49, Try.ntmps49
      go_wp2_with fail
      refine HR.out.mono ?_
      rintro r w' ⟨rfl, rfl⟩
      go_wp2
      go_ret2
      exact ⟨rfl, rfl⟩
  · have e : rpE c k page = reE c k := by unfold rpE; rw [if_neg h0]
    rw [e]
    have HR := Lib.hid (reach_no h k h0)
    generalize reE c k = x at HR h0 ⊢
    have t0 : (x != 0) = true := bne_iff_ne.2 h0
    clear h hk e h0
    go_enter Try.func49, Try.ntmps49
    go_wp2_with fail
    refine HR.out.mono ?_
    rintro r w' ⟨rfl, rfl⟩
    go_wp2
    go_ret2
    exact ⟨rfl, rfl⟩
set_option maxRecDepth 100000 in
theorem reachPage_yes {w : World} {X : Nat → Prop} {o : Own} {c : Ch} (h : ChAt w X o c) (k page : Nat) (hk : rpE c k page = 0) :
    Calls Try.prog 49 #[o.p, .int .i64 k, .int .i64 page] w fun e w' => e = .returned (.tuple #[o.q k, .int .i64 0]) ∧ w = w' := by
  obtain ⟨h0, -, h1⟩ := rpE_zero hk
  obtain ⟨b0, -⟩ := h.bcell (k := k) (by have := (reE_zero h0).2.2; omega)
  have HR := Lib.hid (reach_yes h k h0)
  have t0 : decide ((page : Int) < 0) = false := decide_eq_false (by omega)
  have t1 : decide (c.np ≤ page) = false := decide_eq_false (by omega)
  clear h hk h0 h1
  go_enter Try.func49, Try.ntmps49
  go_wp2_with fail
  refine HR.out.mono ?_
  rintro r w' ⟨rfl, rfl⟩
  go_wp2
  go_ret2
  exact ⟨rfl, rfl⟩
set_option maxRecDepth 100000 in
theorem wear_any {w : World} {X : Nat → Prop} {o : Own} {c : Ch} (h : ChAt w X o c) (k : Nat) (hk : k < c.nb) :
    Calls Try.prog 67 #[o.p, .int .i64 k] w fun e w' => e = .returned (.int .i64 (c.wear k)) ∧ w = w' := by
  obtain ⟨-, -, -, b3⟩ := h.bcell hk
  have HB := Lib.hid (block_yes h k hk)
  clear h hk
  go_enter Try.func67, Try.ntmps67
  go_wp2_with fail
  refine HB.out.mono ?_
  rintro r w' ⟨rfl, rfl⟩
  go_wp2
  go_ret
  exact ⟨rfl, rfl⟩
set_option maxRecDepth 100000 in
theorem bad_any {w : World} {X : Nat → Prop} {o : Own} {c : Ch} (h : ChAt w X o c) (k : Nat) (hk : k < c.nb) :
    Calls Try.prog 55 #[o.p, .int .i64 k] w fun e w' => e = .returned (.bool (c.bad k)) ∧ w = w' := by
  obtain ⟨-, -, b2, -⟩ := h.bcell hk
  have HB := Lib.hid (block_yes h k hk)
  clear h hk
  go_enter Try.func55, Try.ntmps55
  go_wp2_with fail
  refine HB.out.mono ?_
  rintro r w' ⟨rfl, rfl⟩
  go_wp2
  go_ret
  exact ⟨rfl, rfl⟩
end Go.Proofs.Ytnnpdlebgfjihaa
