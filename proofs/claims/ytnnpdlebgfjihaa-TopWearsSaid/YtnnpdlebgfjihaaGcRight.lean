/-
  Which rows of blocks are right: the program's answer and the document's. Nothing of one statement alone stands here.
-/
import Derived.Test.YtnnpdlebgfjihaaGcRows
import Derived.Laws.Rows
import Derived.Test.YtnnpdlebgfjihaaLater
namespace Go.Proofs.Ytnnpdlebgfjihaa
open Go.RowKit Gcm Go.ChangeShapes

theorem gbool {a b : Bool} (h : a = b) : Ending.returned (.bool a) = .returned (.bool b) := by rw [h]
theorem gd {b : Bool} {p : Prop} [Decidable p] (h : b = true ↔ p) : b = decide p := by
  cases b with
  | true => exact (decide_eq_true (h.1 rfl)).symm
  | false => exact (decide_eq_false (fun g => by have := h.2 g; cases this)).symm
theorem gint {a b : Int} (h : a = b) : Ending.returned (.int .i64 a) = .returned (.int .i64 b) := by rw [h]

set_option maxRecDepth 100000 in
set_option maxHeartbeats 400000 in
theorem rightBlock_any (st lv wr nx p : Int) (_hp : 1 ≤ p) (w : World) :
    Calls Try.prog 104 #[.agg #[.int .i64 st, .int .i64 lv, .int .i64 wr, .int .i64 nx], .int .i64 p] w fun e w' => e = .returned (.bool (decide (Rb p ⟨st, lv, wr, nx⟩))) ∧ Below w.heap.size w w' := by
  by_cases h : st = 0 ∨ st = 3 ∨ st = 4
  · rcases h with rfl | rfl | rfl
    all_goals
      go_enter Try.func104, Try.ntmps104
      go_wp2
      all_goals go_ret
      all_goals refine ⟨gbool (gd ?_), (Below.refl _ _).alloc (Nat.le_refl _) _⟩
      all_goals (simp only [Rb, decide_eq_true_eq, Bool.false_eq_true]; constructor <;> intro hh <;> first | exact hh.elim | omega | exact ⟨by omega, by omega, by omega, by omega, by omega, by omega, by omega, by omega, by first | omega | (intro _; simp)⟩)
  by_cases h2 : st = 1 ∨ st = 2
  · clear h
    rcases h2 with rfl | rfl
    all_goals
      go_enter Try.func104, Try.ntmps104
      go_wp2
      all_goals go_ret
      all_goals refine ⟨gbool (gd ?_), (Below.refl _ _).alloc (Nat.le_refl _) _⟩
      all_goals (simp only [Rb, decide_eq_true_eq, Bool.false_eq_true]; constructor <;> intro hh <;> first | exact hh.elim | omega | exact ⟨by omega, by omega, by omega, by omega, by omega, by omega, by omega, by omega, by first | omega | (intro _; simp)⟩)
  · have H := Lib.hid (show ¬ Rb p ⟨st, lv, wr, nx⟩ by simp only [Rb]; omega)
    have e0 : (st == 0) = false := by simp; omega
    have e1 : (st == 1) = false := by simp; omega
    have e2 : (st == 2) = false := by simp; omega
    have e3 : (st == 3) = false := by simp; omega
    have e4 : (st == 4) = false := by simp; omega
    clear h h2
    go_enter Try.func104, Try.ntmps104
    go_wp2
    go_ret
    exact ⟨gbool (decide_eq_false H.out).symm, (Below.refl _ _).alloc (Nat.le_refl _) _⟩

/-- a function with a body of its own is entered -/
theorem enters_go {f : FuncId} {fn : Func} {c : Code} (h : Try.prog.funcs[f]? = some fn) (hn : (fn.name == "runtime.NumGoroutine") = false) (hb : fn.body = some c) :
    ∀ args w, (callFunc f args).run Try.prog w = .ok (.enter f args) w := by
  intro args w
  have : fn.name ≠ "runtime.NumGoroutine" := by simpa using hn
  simp [callFunc, h, this, hb, mark]

/-- what a function value says of the blocks of a row, in each world that is later than w -/
def PredOn (g : Nat) (lb : Array Value) (p : Bk → Bool) (l : List Bk) (w : World) : Prop :=
  ∀ (W : World) (x : Bk), x ∈ l → Below w.heap.size w W → Calls Try.prog g (#[x.v] ++ lb) W fun e w' => e = .returned (.bool (p x)) ∧ Below W.heap.size W w'
theorem PredOn.later {g : Nat} {lb : Array Value} {p : Bk → Bool} {l : List Bk} {w w' : World} (h : PredOn g lb p l w) (hb : Below w.heap.size w w') : PredOn g lb p l w' :=
  fun W x hx hW => h W x hx (hb.trans (hW.mono hb.size))

theorem right1 (l : List Bk) (p : Int) (hp : 1 ≤ p) (w : World) (B : Nat) (hc : w.cell? ⟨B, 0, none⟩ = some (.int .i64 p)) :
    PredOn 103 #[.pointer (some ⟨B, 0, none⟩)] (fun b => !decide (Rb p b)) l w := fun W x _ hb => by
  have hB := block_lt_of_cell hc
  have hc' : W.cell? ⟨B, 0, none⟩ = some (.int .i64 p) := (hb.cell (p := ⟨B, 0, none⟩) hB).trans hc
  have hBW : B < W.heap.size := Nat.lt_of_lt_of_le hB hb.size
  have hne : B ≠ W.heap.size := by omega
  obtain ⟨st, lv, wr, nx⟩ := x
  have HC := Lib.hid (fun w => rightBlock_any st lv wr nx p hp w)
  clear hp hc hb hB
  show Calls Try.prog 103 #[.agg #[.int .i64 st, .int .i64 lv, .int .i64 wr, .int .i64 nx], .pointer (some ⟨B, 0, none⟩)] W fun e w' => e = .returned (.bool (!decide (Rb p ⟨st, lv, wr, nx⟩))) ∧ Below W.heap.size W w'
  generalize decide (Rb p ⟨st, lv, wr, nx⟩) = r at HC ⊢
  go_enter Try.func103, Try.ntmps103
  go_wp2_with fail
  refine (HC.out _).mono ?_
  rintro e w' ⟨rfl, hb⟩
  go_wp2
  go_ret
  exact ⟨rfl, ((Below.refl _ _).alloc (Nat.le_refl _) _).trans (hb.mono (by simp))⟩


end Go.Proofs.Ytnnpdlebgfjihaa
