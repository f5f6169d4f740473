/-
  A manager's block by its number, and a page of it dropped. Nothing of one statement alone stands here.
-/
import Derived.Test.YtnnpdlebgfjihaaBlkDo
namespace Go.Proofs.Ytnnpdlebgfjihaa
open Go.RowKit Crcm Gcm Go.ChangeShapes

set_option maxRecDepth 100000 in
theorem bblock_no {w : World} {M : Nat} {m : Mg} (h : MgAt w M m) (k : Int) (hk : k < 0 ∨ (m.l.length : Int) ≤ k) : Calls Try.prog 60 #[.pointer (some ⟨M, 0, none⟩), .int .i64 k] w fun e w' => e = .returned (.pointer none) ∧ w = w' := by
  obtain ⟨-, c1, -, -, -⟩ := h.cells
  clear h
  generalize m.l.length = n at *
  by_cases h0 : k < 0
  · have t0 : decide (k < 0) = true := decide_eq_true h0
    go_enter Try.func60, Try.ntmps60
    go_wp2
    go_ret
    exact ⟨rfl, rfl⟩
  · have t0 : decide (k < 0) = false := decide_eq_false h0
    have t1 : decide ((n : Int) ≤ k) = true := decide_eq_true (by omega)
    go_enter Try.func60, Try.ntmps60
    go_wp2
    go_ret
    exact ⟨rfl, rfl⟩
set_option maxRecDepth 100000 in
theorem bblock_yes {w : World} {M : Nat} {m : Mg} (h : MgAt w M m) (k : Nat) (hk : k < m.l.length) : Calls Try.prog 60 #[.pointer (some ⟨M, 0, none⟩), .int .i64 k] w fun e w' => e = .returned (.pointer (some ⟨m.g, k * 4, none⟩)) ∧ w = w' := by
  obtain ⟨-, c1, -, -, -⟩ := h.cells
  have hs := h.small
  clear h
  generalize m.l.length = n at *
  have t0 : decide ((k : Int) < 0) = false := decide_eq_false (by omega)
  have t1 : decide ((n : Int) ≤ (k : Int)) = false := decide_eq_false (by omega)
  go_enter Try.func60, Try.ntmps60
  go_wp2
  go_ret
  exact ⟨rfl, rfl⟩

set_option maxRecDepth 100000 in
theorem drop_no {w : World} {M : Nat} {m : Mg} (h : MgAt w M m) (k : Int) (hk : (k < 0 ∨ (m.l.length : Int) ≤ k) ∨ ∃ q : Nat, k = q ∧ q < m.l.length ∧ m.l[q]!.lv = 0) : Calls Try.prog 17 #[.pointer (some ⟨M, 0, none⟩), .int .i64 k] w fun e w' => e = .returned (.int .i64 1) ∧ w = w' := by
  rcases hk with hk | ⟨q, rfl, hq, h0⟩
  · have H := Lib.hid (bblock_no h k hk)
    clear h hk
    go_enter Try.func17, Try.ntmps17
    go_wp2_with fail
    refine H.out.mono ?_
    rintro r w' ⟨rfl, rfl⟩
    go_wp2
    go_ret
    exact ⟨rfl, rfl⟩
  · have H := Lib.hid (bblock_yes h q hq)
    have e1 := (h.own.at q hq).2.1
    rw [h0] at e1
    clear h
    go_enter Try.func17, Try.ntmps17
    go_wp2_with fail
    refine H.out.mono ?_
    rintro r w' ⟨rfl, rfl⟩
    go_wp2
    go_ret
    exact ⟨rfl, rfl⟩

/-- a block, one page of it dropped -/
def dropB (st lv wr nx : Int) : Bk := if (st == 2) = true ∧ (wrap64 (lv - 1) == 0) = true then ⟨3, wrap64 (lv - 1), wr, nx⟩ else ⟨st, wrap64 (lv - 1), wr, nx⟩

set_option maxRecDepth 100000 in
set_option maxHeartbeats 1000000 in
theorem drop_yes {w : World} {M : Nat} {m : Mg} (h : MgAt w M m) (q : Nat) (hq : q < m.l.length) (st lv wr nx : Int) (hy : m.l[q]! = ⟨st, lv, wr, nx⟩) (h0 : (lv == 0) = false) (hlv : I64 (wrap64 (lv - 1))) : Calls Try.prog 17 #[.pointer (some ⟨M, 0, none⟩), .int .i64 q] w fun e w' => e = .returned (.int .i64 0) ∧ MgAt w' M { m with l := m.l.set q (dropB st lv wr nx) } ∧ Kp (fun b => b = m.g) w w' := by
  have H := Lib.hid (bblock_yes h q hq)
  obtain ⟨e0, e1, -, -⟩ := h.own.at q hq
  have f0 := h.own.frozen (q * 4)
  have f1 := h.own.frozen (q * 4 + 1)
  have P1 := h.putf q 1 hq (by omega) _ hlv
  have P2 := P1.putf q 0 (by rw [List.length_set]; exact hq) (by omega) 3 (by unfold I64; omega)
  dsimp only at P2
  rw [set_getB _ _ _ _ hq, if_pos rfl, List.set_set] at P2
  rw [hy] at e0 e1 P1 P2
  have M1 := Lib.hid P1
  have M2 := Lib.hid P2
  have K1 := Lib.hid ((Kp.refl (fun b => b = m.g) w).setCell (p := ⟨m.g, q * 4 + 1, none⟩) (.inl rfl) (.int .i64 (wrap64 (lv - 1))))
  have K2 := Lib.hid (((Kp.refl (fun b => b = m.g) w).setCell (p := ⟨m.g, q * 4 + 1, none⟩) (.inl rfl) (.int .i64 (wrap64 (lv - 1)))).setCell (p := ⟨m.g, q * 4, none⟩) (.inl rfl) (.int .i64 3))
  clear h hy hlv P1 P2
  dsimp only at e0 e1
  cases hs : st == 2 with
  | false =>
    have HD : Hid (dropB st lv wr nx = ⟨st, wrap64 (lv - 1), wr, nx⟩) := Lib.hid (by unfold dropB; rw [if_neg (by rw [hs]; simp)])
    go_enter Try.func17, Try.ntmps17
    go_wp2_with fail
    refine H.out.mono ?_
    rintro r w' ⟨rfl, rfl⟩
    go_wp2
    go_ret
    exact ⟨rfl, by rw [HD.out]; exact M1.out, K1.out⟩
  | true =>
    cases hz : wrap64 (lv - 1) == 0 with
    | false =>
      have HD : Hid (dropB st lv wr nx = ⟨st, wrap64 (lv - 1), wr, nx⟩) := Lib.hid (by unfold dropB; rw [if_neg (by rw [hz]; simp)])
      go_enter Try.func17, Try.ntmps17
      go_wp2_with fail
      refine H.out.mono ?_
      rintro r w' ⟨rfl, rfl⟩
      go_wp2
      go_ret
      exact ⟨rfl, by rw [HD.out]; exact M1.out, K1.out⟩
    | true =>
      have HD : Hid (dropB st lv wr nx = ⟨3, wrap64 (lv - 1), wr, nx⟩) := Lib.hid (by unfold dropB; rw [if_pos ⟨hs, hz⟩])
      go_enter Try.func17, Try.ntmps17
      go_wp2_with fail
      refine H.out.mono ?_
      rintro r w' ⟨rfl, rfl⟩
      go_wp2
      go_ret
      exact ⟨rfl, by rw [HD.out]; exact M2.out, K2.out⟩
end Go.Proofs.Ytnnpdlebgfjihaa
