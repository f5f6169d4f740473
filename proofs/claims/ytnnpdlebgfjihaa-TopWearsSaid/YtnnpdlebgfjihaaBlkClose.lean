/-
  A manager's block closed. Nothing of one statement alone stands here.
-/
import Derived.Test.YtnnpdlebgfjihaaBlkDrop
import Derived.Test.YtnnpdlebgfjihaaBlkProg
import Derived.Test.YtnnpdlebgfjihaaNandDo
namespace Go.Proofs.Ytnnpdlebgfjihaa
open Go.RowKit Crcm Gcm Go.ChangeShapes

/-- a block, closed -/
def closeB (_st lv wr nx : Int) : Bk := if 0 < lv then ⟨2, lv, wr, nx⟩ else ⟨3, lv, wr, nx⟩

set_option maxRecDepth 100000 in
set_option maxHeartbeats 1000000 in
theorem close_any {w : World} {M : Nat} {m : Mg} (h : MgAt w M m) (q : Nat) (hq : q < m.l.length) (st lv wr nx : Int) (hy : m.l[q]! = ⟨st, lv, wr, nx⟩) : Calls Try.prog 40 #[.pointer (some ⟨M, 0, none⟩), .int .i64 q] w fun e w' => e = .returned (.tuple #[]) ∧ MgAt w' M { m with l := m.l.set q (closeB st lv wr nx) } ∧ Kp (fun b => b = m.g) w w' := by
  obtain ⟨-, c1, -, -, -⟩ := h.cells
  obtain ⟨e0, e1, -, -⟩ := h.own.at q hq
  have f0 := h.own.frozen (q * 4)
  have P1 := h.putf q 0 hq (by omega) 3 (by unfold I64; omega)
  have P2 := P1.putf q 0 (by rw [List.length_set]; exact hq) (by omega) 2 (by unfold I64; omega)
  dsimp only at P2
  rw [set_getB _ _ _ _ hq, if_pos rfl, List.set_set] at P2
  rw [hy] at e0 e1 P1 P2
  have M1 := Lib.hid P1
  have M2 := Lib.hid P2
  have K1 := Lib.hid ((Kp.refl (fun b => b = m.g) w).setCell (p := ⟨m.g, q * 4, none⟩) (.inl rfl) (.int .i64 3))
  have K2 := Lib.hid (((Kp.refl (fun b => b = m.g) w).setCell (p := ⟨m.g, q * 4, none⟩) (.inl rfl) (.int .i64 3)).setCell (p := ⟨m.g, q * 4, none⟩) (.inl rfl) (.int .i64 2))
  clear h hy P1 P2
  dsimp only at e0 e1
  by_cases hz : 0 < lv
  · have HD : Hid (closeB st lv wr nx = ⟨2, lv, wr, nx⟩) := Lib.hid (by unfold closeB; rw [if_pos hz])
    have t0 : decide (0 < lv) = true := decide_eq_true hz
    go_enter Try.func40, Try.ntmps40
    go_wp2
    go_end0
    exact ⟨rfl, by rw [HD.out]; exact M2.out, K2.out⟩
  · have HD : Hid (closeB st lv wr nx = ⟨3, lv, wr, nx⟩) := Lib.hid (by unfold closeB; rw [if_neg hz])
    have t0 : decide (0 < lv) = false := decide_eq_false hz
    go_enter Try.func40, Try.ntmps40
    go_wp2
    go_end0
    exact ⟨rfl, by rw [HD.out]; exact M1.out, K1.out⟩
/-- the blocks of memory that a manager's calls turn: the chip's, and the row of its own -/
def Fm (o : Own) (n g b : Nat) : Prop := o.F n b ∨ b = g
set_option maxRecDepth 100000 in
set_option maxHeartbeats 1000000 in
theorem bmark_any {w : World} {X : Nat → Prop} {M : Nat} {m : Mg} {o : Own} {c : Ch} (h : MgAt w M m) (hc : ChAt w X o c) (hp : m.cp = o.p) (hXg : X m.g) (hoM : ¬ o.F c.nb M) (hog : ¬ o.F c.nb m.g) (q : Nat) (hq : q < m.l.length) (hk : reE c q = 0) :
    Calls Try.prog 63 #[.pointer (some ⟨M, 0, none⟩), .int .i64 q] w fun e w' => e = .returned (.tuple #[]) ∧ MgAt w' M { m with l := m.l.set q ⟨4, 0, 0, 0⟩ } ∧ ChAt w' X o { c with bad := up1 c.bad q true } ∧ Kp (Fm o c.nb m.g) w w' := by
  obtain ⟨c0, -, -, -, -⟩ := h.cells
  rw [hp] at c0
  have HMk := Lib.hid (mark_yes hc q hk)
  have HH := Lib.hid h
  clear h hc hp hk
  unfold Own.p at c0 HMk
  go_enter Try.func63, Try.ntmps63
  go_wp2_with fail
  refine HMk.out.mono ?_
  rintro r w1 ⟨rfl, hc1, hk1⟩
  have M1 := HH.out.kp hk1 hoM hog
  obtain ⟨-, d1, -, -, -⟩ := M1.cells
  obtain ⟨e0, e1, e2, e3⟩ := M1.own.at q hq
  have f0 := M1.own.frozen (q * 4)
  have f1 := M1.own.frozen (q * 4 + 1)
  have f2 := M1.own.frozen (q * 4 + 2)
  have f3 := M1.own.frozen (q * 4 + 3)
  have P := Lib.hid (M1.put4 q hq ⟨4, 0, 0, 0⟩ (by unfold Bw I64; simp))
  have K := Lib.hid (((((Kp.refl (fun b => b = m.g) w1).setCell (p := ⟨m.g, q * 4, none⟩) (.inl rfl) (.int .i64 4)).setCell (p := ⟨m.g, q * 4 + 1, none⟩) (.inl rfl) (.int .i64 0)).setCell (p := ⟨m.g, q * 4 + 2, none⟩) (.inl rfl) (.int .i64 0)).setCell (p := ⟨m.g, q * 4 + 3, none⟩) (.inl rfl) (.int .i64 0))
  have C2 := Lib.hid (hc1.kp K.out (fun b hb => by rw [hb]; exact hXg) (fun b hb e => hog (by rw [← e]; exact hb)))
  have K2 := Lib.hid ((hk1.mono (fun b hb => show Fm o c.nb m.g b from .inl hb)).trans (K.out.mono (fun b hb => show Fm o c.nb m.g b from .inr hb)))
  clear M1 hc1 hk1 c0
  generalize m.l[q]!.st = y0 at e0
  generalize m.l[q]!.lv = y1 at e1
  generalize m.l[q]!.wr = y2 at e2
  generalize m.l[q]!.nx = y3 at e3
  go_wp2
  go_end0
  exact ⟨rfl, P.out, C2.out, K2.out⟩
end Go.Proofs.Ytnnpdlebgfjihaa
