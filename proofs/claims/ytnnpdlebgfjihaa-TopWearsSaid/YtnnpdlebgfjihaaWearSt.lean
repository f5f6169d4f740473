/-
  What stands in memory while the statement that blocks wear alike takes its steps.
-/
import Derived.Test.YtnnpdlebgfjihaaWearMath
import Derived.Test.YtnnpdlebgfjihaaWearGap
import Derived.Test.YtnnpdlebgfjihaaWearTell
import Derived.Test.YtnnpdlebgfjihaaWearAwake
import Derived.Test.YtnnpdlebgfjihaaBlkGen
import Derived.WalkSmall
import Derived.Maps.AppendAt
namespace Gcm
theorem rmk_zero {np : Int} {l : List Bk} : ∀ n, (∀ k, k < n → l[k]!.st ≠ 0 ∧ l[k]!.st ≠ 1) → rmk np l n = 0 := by
  intro n
  induction n with
  | zero => intro _; rfl
  | succ n ih =>
    intro h
    have h1 := h n (by omega)
    rw [rmk_at rfl, if_neg (by simpa using h1.1), if_neg (by simpa using h1.2)]
    exact ih fun k hk => h k (by omega)
end Gcm
namespace Go.Proofs.Ytnnpdlebgfjihaa
open Go.RowKit Crcm Gcm Go.ChangeShapes

theorem wk_at (f : Nat → Int) (l : List Bk) (j : Nat) (hj : j < l.length) : ∀ n, n ≤ l.length → (wk f l n)[j]! = if j < n then (setf l[j]! 2 (f j)) else l[j]! := by
  intro n
  induction n with
  | zero => intro _; rw [if_neg (by omega)]; rfl
  | succ n ih =>
    intro hn
    have := ih (by omega)
    rw [wk, set_getB _ _ _ _ (by rw [wk_length]; exact hj)]
    by_cases e : n = j
    · subst e
      rw [if_pos rfl, if_pos (by omega), this, if_neg (by omega)]
    · rw [if_neg e, this]
      by_cases g : j < n
      · rw [if_pos g, if_pos (by omega)]
      · rw [if_neg g, if_neg (by omega)]
theorem Iv.mono {l : List Bk} {c : Ch} {held : List Int} {n m : Nat} (h : Iv l c held n) (hm : n ≤ m) : Iv l c held m :=
  ⟨h.len, h.nb, h.np, h.sz, h.up, h.fl, h.cln, h.ble, h.cnt, h.hin, fun k hk => by have := h.wr k hk; omega, h.gap⟩
/-- an action that is taken -/
theorem Iv.next {l : List Bk} {c : Ch} {held : List Int} {n : Nat} (h : Iv l c held n) (room : Bool) (hk : (nxt (wk c.wear l 16) 8 room).1 = 1 ∨ (nxt (wk c.wear l 16) 8 room).1 = 3) :
    ∃ q : Nat, q < 16 ∧ (nxt (wk c.wear l 16) 8 room).2 = q ∧ (l[q]!.st = 3 ∨ l[q]!.st = 0 ∨ (l[q]!.st = 1 ∧ l[q]!.nx = 0)) ∧ ∀ j, j < 16 → c.wear q ≤ c.wear j + 3 := by
  obtain ⟨q, h1, h2, h3, h4, h5⟩ := nxt_wear hk
  have hlen : (wk c.wear l 16).length = 16 := by rw [wk_length, h.len]
  have hq : q < 16 := by rw [hlen] at h1; exact h1
  have hat : ∀ j, j < 16 → (wk c.wear l 16)[j]! = setf l[j]! 2 (c.wear j) := fun j hj => by
    rw [wk_at c.wear l j (by rw [h.len]; exact hj) 16 (by rw [h.len]; omega), if_pos hj]
  rw [hat q hq] at h3 h4 h5
  refine ⟨q, hq, h2, h5, fun j hj => ?_⟩
  have hb := h.ble j hj
  have hle := least_le (wk c.wear l 16) _ (getB_mem (wk c.wear l 16) j (by rw [hlen]; exact hj)) (by
    rw [hat j hj]
    show l[j]!.st ≠ 4
    unfold Bs at hb
    omega)
  rw [hat j hj] at hle
  have h4 : c.wear q ≤ least (wk c.wear l 16) + 3 := h4
  have hle : least (wk c.wear l 16) ≤ c.wear j := hle
  omega

theorem own_kp {F : Nat → Prop} {w w' : World} {base : Nat} {e : TypeId} {size n : Nat} {v : Value} {xs : List Value} (h : w.ownsRow base e size v n xs) (hk : Kp F w w') (hr : ∀ r, v.ownBlock = some r → ¬ F r) : w'.ownsRow base e size v n xs := by
  refine ⟨h.1, ?_⟩
  rcases h.2 with g | ⟨g, cap, cur, hv, hg, hh, r⟩
  · exact .inl g
  · have hlt : g < w.heap.size := (Array.getElem?_eq_some_iff.1 hh).1
    exact .inr ⟨g, cap, cur, hv, hg, (hk.block g hlt (hr g (by rw [hv]; rfl))).trans hh, r⟩

/-- what stands in memory -/
structure Ws (w0 W : World) (M g cap : Nat) (o : Own) (X : Nat → Prop) (l : List Bk) (c : Ch) (held : List Int) (v : Value) (n : Nat) : Prop where
  mg : MgAt W M ⟨o.p, g, cap, l, 1, 0, false⟩
  ch : ChAt W X o c
  iv : Iv l c held n
  xg : X g
  xlo : ∀ b, X b → w0.heap.size ≤ b
  fm : ¬ o.F 16 M
  fg : ¬ o.F 16 g
  own : W.ownsRow w0.heap.size 3 1 v held.length (held.map (Value.int .i64))
  hv : ∀ r, v.ownBlock = some r → X r ∧ ¬ o.F 16 r ∧ r ≠ M ∧ r ≠ g
  bel : Below w0.heap.size w0 W
theorem Ws.below {w0 W W' : World} {M g cap : Nat} {o : Own} {X : Nat → Prop} {l : List Bk} {c : Ch} {held : List Int} {v : Value} {n : Nat} (h : Ws w0 W M g cap o X l c held v n) (hb : Below W.heap.size W W') : Ws w0 W' M g cap o X l c held v n :=
  ⟨h.mg.below hb, h.ch.below hb, h.iv, h.xg, h.xlo, h.fm, h.fg, own_kp h.own (Kp.of_below (F := fun _ => False) hb) (fun _ _ f => f), h.hv, h.bel.trans (hb.mono h.bel.size)⟩
/-- a call of the manager's -/
theorem Ws.call {w0 W W' : World} {M g cap : Nat} {o : Own} {X : Nat → Prop} {l l' : List Bk} {c c' : Ch} {held held' : List Int} {v : Value} {n n' : Nat} (h : Ws w0 W M g cap o X l c held v n) (hk : Kp (Fm o 16 g) W W')
    (hm : MgAt W' M ⟨o.p, g, cap, l', 1, 0, false⟩) (hc : ChAt W' X o c') (hi : Iv l' c' held' n') (he : held' = held) : Ws w0 W' M g cap o X l' c' held' v n' := by
  subst he
  refine ⟨hm, hc, hi, h.xg, h.xlo, h.fm, h.fg, own_kp h.own hk (fun r hr f => ?_), h.hv, h.bel.trans (hk.below (fun b hb => ?_) h.bel.size)⟩
  · obtain ⟨_, h2, _, h4⟩ := h.hv r hr
    rcases f with f | f
    · exact h2 f
    · exact h4 f
  · rcases hb with hb | rfl
    · exact h.xlo b (h.ch.inX b (by rw [h.iv.nb]; exact hb))
    · exact h.xlo _ h.xg
end Go.Proofs.Ytnnpdlebgfjihaa
