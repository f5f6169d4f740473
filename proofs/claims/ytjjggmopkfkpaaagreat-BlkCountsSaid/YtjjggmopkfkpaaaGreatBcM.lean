/-
  What stands in memory while a manager's blocks are counted. Nothing of one statement alone stands here.
-/
import Derived.Test.YtjjggmopkfkpaaaGreatMC
import Derived.Test.YtjjggmopkfkpaaaGreatLD
import Derived.Test.YtjjggmopkfkpaaaGreatMB
import Derived.Test.YtjjggmopkfkpaaaGreatMA
namespace Go.Proofs.YtjjggmopkfkpaaaGreat
open Go.RowKit Crcm Gcm Go.ChangeShapes

structure CtX (w0 : World) (M : Nat) (m0 : Mg) (o : Own) (nb np : Nat) (r : Rb) (q : Rq) (X : Nat → Prop) (g : Nat) (cs : Array Value) (l : List Bk) (c : Ch) (k : Nat) (w : World) : Prop where
  pr : Pr w X M { m0 with l := l } o c r q
  ic : Ic np l
  wr : Wr c k
  cn : c.nb = nb
  cp : c.np = np
  xlo : ∀ b, X b → w0.heap.size < b
  box : Blk w g 28 cs
  gw : g = w0.heap.size
  bel : Below w0.heap.size w0 w

section
variable {w0 : World} {M : Nat} {m0 : Mg} {o : Own} {nb np : Nat} {r : Rb} {q : Rq} {X : Nat → Prop} {g : Nat} {cs : Array Value} {l : List Bk} {c : Ch} {k : Nat} {w : World}
theorem CtX.below {w' : World} (h : CtX w0 M m0 o nb np r q X g cs l c k w) (hb : Below w.heap.size w w') : CtX w0 M m0 o nb np r q X g cs l c k w' :=
  ⟨h.pr.below hb, h.ic, h.wr, h.cn, h.cp, h.xlo, h.box.below hb h.box.lt, h.gw, h.bel.trans (hb.mono h.bel.size)⟩
theorem CtX.call {w' : World} {l' : List Bk} {c' : Ch} {k' : Nat} (h : CtX w0 M m0 o nb np r q X g cs l c k w) (hp : Pr w' X M { m0 with l := l' } o c' r q) (hi : Ic np l') (hw : Wr c' k') (hn : c'.nb = nb) (hnp : c'.np = np) (hk : Kp (Qm o nb m0.g r q) w w') : CtX w0 M m0 o nb np r q X g cs l' c' k' w' := by
  have hx : ∀ b, Qm o nb m0.g r q b → X b := fun b hb => by
    rcases hb with hb | hb
    · exact h.pr.fmX b (by show Fm o c.nb m0.g b; rw [h.cn]; exact hb)
    · exact h.pr.rfX b hb
  exact ⟨hp, hi, hw, hn, hnp, h.xlo, h.box.kp hk (fun e => by have := h.xlo g (hx g e); have := h.gw; omega), h.gw, h.bel.trans (hk.below (fun b hb => by have := h.xlo b (hx b hb); omega) h.bel.size)⟩
theorem CtX.np32 (h : CtX w0 M m0 o nb np r q X g cs l c k w) : (1 ≤ (np : Int) ∧ (np : Int) ≤ 32) ∧ 7 < nb ∧ nb ≤ 128 := by
  have := h.pr.ch.good
  rw [h.cn, h.cp] at this
  unfold Gd at this
  omega
/-- the blocks gathered, and what is told of them -/
theorem ct_all (h : CtX w0 M m0 o nb np r q X g cs l c k w) (hk : k ≤ 9001) : Calls Tryz.prog 8 #[.pointer (some ⟨M, 0, none⟩)] w fun e w' => ∃ gg cap l', e = .returned (.slice (some ⟨gg, 0, none⟩) nb cap) ∧ Rg w' (some ⟨gg, 0, none⟩) l' ∧ l'.length = nb ∧ lvs l' nb = sm l ∧ cnt 1 l' nb ≤ 1 ∧ Rt l' np ∧ Below w.heap.size w w' := by
  obtain ⟨hnp, hn7, hn8⟩ := h.np32
  have hln : l.length = nb := h.pr.ln.trans h.cn
  refine (sall_any h.pr.mg h.pr.ch h.pr.cp h.pr.ln).mono ?_
  rintro e w' ⟨a, cap, rfl, hown, hb⟩
  rw [h.cn] at hown ⊢
  obtain ⟨gg, cap', e1, -, hO⟩ := own_of_row hown (by omega)
  injection e1 with e1 e2 e3
  subst e1
  have hwk : ∀ j, 0 ≤ c.wear j ∧ c.wear j ≤ 1099511627776 := fun j => by have := h.wr j; omega
  have hrt := Go.Proofs.YtjjggmopkfkpaaaGreat.Ic.rt h.ic hnp c.wear hwk
  have hbw := wk_bwS hnp hrt
  obtain ⟨i1, i2⟩ := Go.Proofs.YtjjggmopkfkpaaaGreat.Ic.wk h.ic c.wear l.length (Nat.le_refl _)
  have hlen : (wk c.wear l l.length).length = nb := by rw [wk_length]; exact hln
  have hs := sm_lvs (by omega) hnp.2 (by rw [hlen]; exact hn8) i1.bl nb (by rw [hlen]; exact Nat.le_refl _)
  have hc := co_cnt (l := wk c.wear l l.length) (by rw [hlen]; exact hn8) nb (by rw [hlen]; exact Nat.le_refl _)
  rw [List.take_of_length_le (by rw [hlen]; exact Nat.le_refl _)] at hs hc
  have hO2 : OwnB w' gg (wk c.wear l l.length) := by rw [hln]; exact hO
  exact ⟨gg, cap, wk c.wear l l.length, rfl, hO2.rg hbw (by rw [hlen]; unfold maxLen; omega), hlen, by rw [hs, i2], by have := i1.co; omega, hrt, hb⟩
theorem CtX.sum (h : CtX w0 M m0 o nb np r q X g cs l c k w) : 0 ≤ sm l ∧ sm l ≤ 4096 := by
  obtain ⟨hnp, hn7, hn8⟩ := h.np32
  have hln : l.length = nb := h.pr.ln.trans h.cn
  have := sm_bound (np := np) (by omega) l (fun y hy => by
    obtain ⟨j, hj, rfl⟩ := List.getElem_of_mem hy
    have := h.ic.bl j hj
    rw [getElem!_pos l j hj] at this
    exact this)
  rw [hln] at this
  have h9 : (nb : Int) * np ≤ 128 * 32 := Int.mul_le_mul (by omega) hnp.2 (by omega) (by omega)
  omega
end
/-- what an operation does to what is counted -/
def Zb (np : Nat) (s : Int) (k : Nat) (l : List Bk) (c : Ch) : Prop := Ic np l ∧ sm l = s ∧ Wr c k ∧ c.np = np
theorem zb_zt {np k : Nat} {s : Int} {y : Bo} (hnp : 1 ≤ (np : Int)) (h2 : y.kind ≠ 2) (hk : k ≤ 9000) : Zt (Zb np s k) (Zb np s (k + 1)) y := by
  refine ⟨fun e => absurd e h2, fun _ l c _ h => ?_, fun _ l c _ h => ?_, fun l c u h => ⟨h.1, h.2.1, h.2.2.1.mono rfl, h.2.2.2⟩, fun l c h => ⟨h.1, h.2.1, h.2.2.1.mono rfl, h.2.2.2⟩⟩
  · obtain ⟨i1, i2⟩ := eraT_ic hnp y.block c h.1
    exact ⟨i1, i2.trans h.2.1, eraT_wr y.block l hk h.2.2.1, (eraT_kd y.block l c).2.1.trans h.2.2.2⟩
  · obtain ⟨i1, i2, i3⟩ := retT_ic hnp y.block c h.1
    exact ⟨i1, i2.trans h.2.1, h.2.2.1.mono i3, (retT_kd y.block l c (fun _ => False)).2.1.trans h.2.2.2⟩
theorem prgT_lenB (b : List Int) (l : List Bk) (c : Ch) : (prgT b l c).2.1.length = l.length := by
  have hI : ∀ (f : Nat → Int) (l : List Bk), (obI f l).2.length = l.length := by
    intro f l
    unfold obI
    split
    · rfl
    · split
      · rfl
      · simp
  have hF : ∀ (j : Nat) (l : List Bk) (c : Ch), (prgF b j l c).2.1.length = l.length := by
    intro j
    induction j with
    | zero => intro l c; rfl
    | succ j ih =>
      intro l c
      rw [prgF]
      split
      · exact hI _ _
      · split
        · simp [hI]
        · split
          · simp [hI]
          · split
            · rw [ih]; simp [hI]
            · exact hI _ _
  unfold prgT
  split
  · split
    · exact hF _ _ _
    · rfl
  · rfl
end Go.Proofs.YtjjggmopkfkpaaaGreat
