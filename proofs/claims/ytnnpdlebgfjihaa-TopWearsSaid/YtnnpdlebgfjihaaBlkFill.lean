/-
  A page programmed by a manager; what is left of its reserve. Nothing of one statement alone stands here.
-/
import Derived.Test.YtnnpdlebgfjihaaBlkDo
namespace Go.Proofs.Ytnnpdlebgfjihaa
open Go.RowKit Crcm Gcm Go.ChangeShapes

theorem MgAt.kp {F : Nat → Prop} {w w' : World} {M : Nat} {m : Mg} (h : MgAt w M m) (hk : Kp F w w') (h1 : ¬ F M) (h2 : ¬ F m.g) : MgAt w' M m :=
  ⟨h.blk.kp hk h1, h.own.kp (hk.block m.g h.own.lt h2), h.wf, h.small, h.ne⟩

set_option maxRecDepth 100000 in
theorem bup_yes {w : World} {X : Nat → Prop} {M : Nat} {m : Mg} {o : Own} {c : Ch} (h : MgAt w M m) (hc : ChAt w X o c) (hp : m.cp = o.p) (hu : c.up = true) : Calls Try.prog 35 #[.pointer (some ⟨M, 0, none⟩)] w fun e w' => e = .returned (.int .i64 0) ∧ w = w' := by
  obtain ⟨c0, -, -, -, -⟩ := h.cells
  rw [hp] at c0
  have HU := Lib.hid (up_any hc)
  rw [hu] at HU
  clear h hc hp hu
  unfold Own.p at *
  go_enter Try.func35, Try.ntmps35
  go_wp2_with fail
  refine HU.out.mono ?_
  rintro r w' ⟨rfl, rfl⟩
  go_wp2
  go_ret
  exact ⟨rfl, rfl⟩

set_option maxRecDepth 100000 in
set_option maxHeartbeats 1000000 in
theorem bleft_same {w : World} {M : Nat} {m : Mg} (h : MgAt w M m) (hx : cnt 4 m.l m.l.length = m.b) (hr : I64 m.r) : Calls Try.prog 22 #[.pointer (some ⟨M, 0, none⟩)] w fun e w' => e = .returned (.int .i64 m.r) ∧ Below w.heap.size w w' := by
  obtain ⟨-, c1, c2, c3, -⟩ := h.cells
  have HC := Lib.hid (fun q : Later w => later_below (count_any m.l (some ⟨m.g, 0, none⟩) m.cap m.l.length 4 q.to (h.rg.below q.bel) rfl))
  rw [hx] at HC
  have e1 : wrap64 m.r = m.r := by unfold I64 at hr; exact IntWalk.wrap64_in _ ⟨by omega, by omega⟩
  have E1 := Lib.hid e1
  have f1 := fun q : Later w => q.cell c1
  have f3 := fun q : Later w => q.cell c3
  have f2 := fun q : Later w => q.cell c2
  generalize m.b = b at *
  generalize m.r = r at *
  generalize m.l.length = n at *
  clear h hx hr e1 c1 c2 c3
  go_enter Try.func22, Try.ntmps22
  go_wp2_with fail
  refine wp_region_later (by kernel_rfl) (by kernel_rfl) ?_
  repeat (go_big_quiet_step (with_reducible first | exact HC.out _))
  refine wpQuiet_nil ?_
  rintro _ ⟨q, rfl⟩
  have g2 := f2 q
  go_wp2
  go_ret
  exact ⟨by rw [E1.out]; rfl, q.bel⟩
set_option maxRecDepth 100000 in
set_option maxHeartbeats 1000000 in
theorem fill_on {w : World} {X : Nat → Prop} {M : Nat} {m : Mg} {o : Own} {c : Ch} (h : MgAt w M m) (hc : ChAt w X o c) (hp : m.cp = o.p) (hX : X m.g) (ho : ¬ o.F c.nb m.g) (k : Nat) (hk : k < m.l.length) (st lv wr nx : Int) (hy : m.l[k]! = ⟨st, lv, wr, nx⟩) (hlv : I64 (wrap64 (lv + 1))) (hnx : I64 (wrap64 (nx + 1))) (hne : wrap64 (nx + 1) ≠ c.np) :
    Calls Try.prog 39 #[.pointer (some ⟨M, 0, none⟩), .int .i64 k] w fun e w' => e = .returned (.tuple #[]) ∧ MgAt w' M { m with l := m.l.set k ⟨st, wrap64 (lv + 1), wr, wrap64 (nx + 1)⟩ } ∧ Kp (fun b => b = m.g) w w' := by
  obtain ⟨c0, c1, -, -, -⟩ := h.cells
  rw [hp] at c0
  obtain ⟨e0, e1, e2, e3⟩ := h.own.at k hk
  have f1 := h.own.frozen (k * 4 + 1)
  have f3 := h.own.frozen (k * 4 + 3)
  have P1 := h.putf k 3 hk (by omega) _ hnx
  have hs : (m.l.set k (setf m.l[k]! 3 (wrap64 (nx + 1)))).set k (setf (m.l.set k (setf m.l[k]! 3 (wrap64 (nx + 1))))[k]! 1 (wrap64 (lv + 1))) = m.l.set k ⟨st, wrap64 (lv + 1), wr, wrap64 (nx + 1)⟩ := by
    rw [set_getB _ _ _ _ hk, if_pos rfl, List.set_set, hy]
    rfl
  have P2 : Hid (MgAt ((w.setCell ⟨m.g, k * 4 + 3, none⟩ (.int .i64 (wrap64 (nx + 1)))).setCell ⟨m.g, k * 4 + 1, none⟩ (.int .i64 (wrap64 (lv + 1)))) M { m with l := m.l.set k ⟨st, wrap64 (lv + 1), wr, wrap64 (nx + 1)⟩ }) := Lib.hid (by
    have := P1.putf k 1 (by rw [List.length_set]; exact hk) (by omega) _ hlv
    dsimp only at this
    rw [hs] at this
    exact this)
  have HK := Lib.hid (((Kp.refl (fun b => b = m.g) w).setCell (p := ⟨m.g, k * 4 + 3, none⟩) (.inl rfl) (.int .i64 (wrap64 (nx + 1)))).setCell (p := ⟨m.g, k * 4 + 1, none⟩) (.inl rfl) (.int .i64 (wrap64 (lv + 1))))
  have hC2 := hc.kp HK.out (fun b hb => by rw [hb]; exact hX) (fun b hb e => ho (by rw [← e]; exact hb))
  have HG := Lib.hid (fun q : Later ((w.setCell ⟨m.g, k * 4 + 3, none⟩ (.int .i64 (wrap64 (nx + 1)))).setCell ⟨m.g, k * 4 + 1, none⟩ (.int .i64 (wrap64 (lv + 1)))) => later_below (geo_any (hC2.below q.bel)))
  have hMg := h.ne
  have q0 := P2.out.cells.1
  have q3 := (P2.out.own.at k (by simpa using hk)).2.2.2
  dsimp only at q0 q3
  rw [set_getB _ _ _ _ hk, if_pos rfl] at q3
  rw [hp] at q0
  have r0 := fun q : Later ((w.setCell ⟨m.g, k * 4 + 3, none⟩ (.int .i64 (wrap64 (nx + 1)))).setCell ⟨m.g, k * 4 + 1, none⟩ (.int .i64 (wrap64 (lv + 1)))) => q.cell q0
  have r3 := fun q : Later ((w.setCell ⟨m.g, k * 4 + 3, none⟩ (.int .i64 (wrap64 (nx + 1)))).setCell ⟨m.g, k * 4 + 1, none⟩ (.int .i64 (wrap64 (lv + 1)))) => q.cell q3
  rw [hy] at e0 e1 e2 e3
  dsimp only at e0 e1 e2 e3 r3
  have gf := gfield1
  have t0 : (wrap64 (nx + 1) == (c.np : Int)) = false := by simpa using hne
  have HKM := Lib.hid (show k < m.l.length from hk)
  clear P1 h hc hC2 hX ho hs hy hlv hnx hne q0 q3 hp
  unfold Own.p at *
  go_enter Try.func39, Try.ntmps39
  go_wp2_with fail
  refine wp_region_later (by kernel_rfl) (by kernel_rfl) ?_
  repeat (go_big_quiet_step (with_reducible first | exact HG.out _))
  refine wpQuiet_nil ?_
  rintro _ ⟨q, rfl⟩
  go_wp2
  go_end0
  exact ⟨rfl, P2.out.below q.bel, HK.out.trans (Kp.of_below q.bel)⟩
end Go.Proofs.Ytnnpdlebgfjihaa
