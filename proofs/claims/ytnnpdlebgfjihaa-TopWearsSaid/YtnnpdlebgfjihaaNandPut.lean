/-
  A chip behind a store: what of it has turned. Nothing of one statement alone stands here.
-/
import Derived.Test.YtnnpdlebgfjihaaNandRow
namespace Go.Proofs.Ytnnpdlebgfjihaa
open Go.RowKit Crcm Go.ChangeShapes

/-- a function that is turned at one place -/
def up1 {α : Type} (f : Nat → α) (k : Nat) (x : α) : Nat → α := fun j => if j = k then x else f j
theorem up1_at {α : Type} (f : Nat → α) (k : Nat) (x : α) : up1 f k x k = x := if_pos rfl
theorem up1_ne {α : Type} (f : Nat → α) {k j : Nat} (x : α) (h : j ≠ k) : up1 f k x j = f j := if_neg h
/-- pages that are turned at one place -/
def up2 {α : Type} (f : Nat → Nat → α) (k i : Nat) (x : α) : Nat → Nat → α := up1 f k (up1 (f k) i x)

theorem Kp.one (w : World) (p : Addr) (v : Value) : Kp (fun b => b = p.block) w (w.setCell p v) := Kp.setCell (F := fun b => b = p.block) (Kp.refl _ _) (.inl rfl) _

/-- a store into the chip's own block -/
theorem ChAt.put {w : World} {X : Nat → Prop} {o : Own} {c : Ch} (h : ChAt w X o c) (i : Nat) (v : Value) (c' : Ch)
    (hs : c'.nb = c.nb ∧ c'.np = c.np ∧ c'.sz = c.sz ∧ c'.pg = c.pg ∧ c'.broken = c.broken ∧ c'.bad = c.bad ∧ c'.wear = c.wear)
    (hv : ∀ fv, FlAt w X fv c.fl → ∃ fv', (chV o c fv).setIfInBounds i v = chV o c' fv' ∧ FlAt w X fv' c'.fl) : ChAt (w.setCell ⟨o.bc, i, none⟩ v) X o c' := by
  obtain ⟨e1, e2, e3, e4, e5, e6, e7⟩ := hs
  have hk := Kp.one w ⟨o.bc, i, none⟩ v
  have hX : X o.bc := h.inX _ (.inl rfl)
  have hf : ∀ b, b = o.bc → X b := fun b e => e ▸ hX
  refine ⟨by rw [e1, e2, e3]; exact h.good, fun b hb => Nat.lt_of_lt_of_le (h.old b hb) hk.size, by rw [e1]; exact h.inX, h.neb, by rw [e1]; exact h.nep, by rw [e1]; exact h.inj, ?_, ?_, ?_⟩
  · obtain ⟨fv, h1, h2⟩ := h.chip
    obtain ⟨fv', g1, g2⟩ := hv fv h2
    refine ⟨fv', ?_, g2.kp hk hf⟩
    have := h1.put i v
    rw [g1] at this
    exact this
  · obtain ⟨cs, h1, h2, h3⟩ := h.blocks
    refine ⟨cs, h1.kp hk (fun e => h.neb e.symm), by rw [e1]; exact h2, ?_⟩
    rw [e1, e2, e5, e6, e7]
    exact h3
  · rw [e1]
    intro k hkn
    obtain ⟨cs, h1, h2, h3⟩ := h.pages k hkn
    refine ⟨cs, h1.kp hk (fun e => (h.nep k hkn).1 e), by rw [e2]; exact h2, ?_⟩
    rw [e2, e3, e4]
    intro j hj
    obtain ⟨u, g1, g2⟩ := h3 j hj
    exact ⟨u, g1, g2.kp hk hf⟩
theorem ChAt.putUp {w : World} {X : Nat → Prop} {o : Own} {c : Ch} (h : ChAt w X o c) (u : Bool) : ChAt (w.setCell ⟨o.bc, 4, none⟩ (.bool u)) X o { c with up := u } :=
  h.put 4 _ _ ⟨rfl, rfl, rfl, rfl, rfl, rfl, rfl⟩ fun fv hf => ⟨fv, by simp [chV], hf⟩
theorem ChAt.putSince {w : World} {X : Nat → Prop} {o : Own} {c : Ch} (h : ChAt w X o c) (u : Int) : ChAt (w.setCell ⟨o.bc, 6, none⟩ (.int .i64 u)) X o { c with since := u } :=
  h.put 6 _ _ ⟨rfl, rfl, rfl, rfl, rfl, rfl, rfl⟩ fun fv hf => ⟨fv, by simp [chV], hf⟩
theorem ChAt.putStrokes {w : World} {X : Nat → Prop} {o : Own} {c : Ch} (h : ChAt w X o c) (u : Int) : ChAt (w.setCell ⟨o.bc, 7, none⟩ (.int .i64 u)) X o { c with strokes := u } :=
  h.put 7 _ _ ⟨rfl, rfl, rfl, rfl, rfl, rfl, rfl⟩ fun fv hf => ⟨fv, by simp [chV], hf⟩
theorem ChAt.putReads {w : World} {X : Nat → Prop} {o : Own} {c : Ch} (h : ChAt w X o c) (u : Int) : ChAt (w.setCell ⟨o.bc, 8, none⟩ (.int .i64 u)) X o { c with reads := u } :=
  h.put 8 _ _ ⟨rfl, rfl, rfl, rfl, rfl, rfl, rfl⟩ fun fv hf => ⟨fv, by simp [chV], hf⟩
theorem ChAt.putFl {w : World} {X : Nat → Prop} {o : Own} {c : Ch} (h : ChAt w X o c) (v : Value) (fl : List Fl) (hf : FlAt w X v fl) : ChAt (w.setCell ⟨o.bc, 5, none⟩ v) X o { c with fl := fl } :=
  h.put 5 _ _ ⟨rfl, rfl, rfl, rfl, rfl, rfl, rfl⟩ fun fv _ => ⟨v, by simp [chV], hf⟩

/-- a store into the row of the chip's blocks -/
theorem ChAt.putB {w : World} {X : Nat → Prop} {o : Own} {c : Ch} (h : ChAt w X o c) (i : Nat) (v : Value) (c' : Ch)
    (hs : c'.nb = c.nb ∧ c'.np = c.np ∧ c'.sz = c.sz ∧ c'.pg = c.pg ∧ c'.up = c.up ∧ c'.fl = c.fl ∧ c'.since = c.since ∧ c'.strokes = c.strokes ∧ c'.reads = c.reads)
    (hv : ∀ cs, BkV o c cs → BkV o c' (cs.setIfInBounds i v)) : ChAt (w.setCell ⟨o.bb, i, none⟩ v) X o c' := by
  obtain ⟨e1, e2, e3, e4, e5, e6, e7, e8, e9⟩ := hs
  have hk := Kp.one w ⟨o.bb, i, none⟩ v
  have hX : X o.bb := h.inX _ (.inr (.inl rfl))
  have hf : ∀ b, b = o.bb → X b := fun b e => e ▸ hX
  refine ⟨by rw [e1, e2, e3]; exact h.good, fun b hb => Nat.lt_of_lt_of_le (h.old b hb) hk.size, by rw [e1]; exact h.inX, h.neb, by rw [e1]; exact h.nep, by rw [e1]; exact h.inj, ?_, ?_, ?_⟩
  · obtain ⟨fv, h1, h2⟩ := h.chip
    refine ⟨fv, ?_, by rw [e6]; exact h2.kp hk hf⟩
    have e : chV o c' fv = chV o c fv := by simp only [chV, e1, e2, e3, e5, e7, e8, e9]
    rw [e]
    exact h1.kp hk h.neb
  · obtain ⟨cs, h1, h2⟩ := h.blocks
    exact ⟨_, h1.put i v, hv cs h2⟩
  · rw [e1]
    intro k hkn
    obtain ⟨cs, h1, h2, h3⟩ := h.pages k hkn
    refine ⟨cs, h1.kp hk (fun e => (h.nep k hkn).2 e), by rw [e2]; exact h2, ?_⟩
    rw [e2, e3, e4]
    intro j hj
    obtain ⟨u, g1, g2⟩ := h3 j hj
    exact ⟨u, g1, g2.kp hk hf⟩
theorem set_ne {cs : Array Value} {i j : Nat} {v : Value} (h : i ≠ j) : (cs.setIfInBounds i v)[j]? = cs[j]? := by rw [Array.getElem?_setIfInBounds, if_neg h]
theorem set_at {cs : Array Value} {i : Nat} {v : Value} (h : i < cs.size) : (cs.setIfInBounds i v)[i]? = some v := by rw [Array.getElem?_setIfInBounds, if_pos rfl, if_pos h]
theorem ChAt.putBroken {w : World} {X : Nat → Prop} {o : Own} {c : Ch} (h : ChAt w X o c) (k : Nat) (hk : k < c.nb) (u : Bool) : ChAt (w.setCell ⟨o.bb, k * 4 + 1, none⟩ (.bool u)) X o { c with broken := up1 c.broken k u } :=
  h.putB _ _ _ ⟨rfl, rfl, rfl, rfl, rfl, rfl, rfl, rfl, rfl⟩ fun cs hc => ⟨by rw [Array.size_setIfInBounds]; exact hc.1, fun j hj => by
    obtain ⟨g0, g1, g2, g3⟩ := hc.2 j hj
    have hz := hc.1
    by_cases e : j = k
    · subst e
      exact ⟨(set_ne (by omega)).trans g0, (set_at (by omega)).trans (by simp only [up1_at]), (set_ne (by omega)).trans g2, (set_ne (by omega)).trans g3⟩
    · exact ⟨(set_ne (by omega)).trans g0, (set_ne (by omega)).trans (by simp only [up1_ne _ _ e]; exact g1), (set_ne (by omega)).trans g2, (set_ne (by omega)).trans g3⟩⟩
theorem ChAt.putBad {w : World} {X : Nat → Prop} {o : Own} {c : Ch} (h : ChAt w X o c) (k : Nat) (hk : k < c.nb) (u : Bool) : ChAt (w.setCell ⟨o.bb, k * 4 + 2, none⟩ (.bool u)) X o { c with bad := up1 c.bad k u } :=
  h.putB _ _ _ ⟨rfl, rfl, rfl, rfl, rfl, rfl, rfl, rfl, rfl⟩ fun cs hc => ⟨by rw [Array.size_setIfInBounds]; exact hc.1, fun j hj => by
    obtain ⟨g0, g1, g2, g3⟩ := hc.2 j hj
    have hz := hc.1
    by_cases e : j = k
    · subst e
      exact ⟨(set_ne (by omega)).trans g0, (set_ne (by omega)).trans g1, (set_at (by omega)).trans (by simp only [up1_at]), (set_ne (by omega)).trans g3⟩
    · exact ⟨(set_ne (by omega)).trans g0, (set_ne (by omega)).trans g1, (set_ne (by omega)).trans (by simp only [up1_ne _ _ e]; exact g2), (set_ne (by omega)).trans g3⟩⟩
theorem ChAt.putWear {w : World} {X : Nat → Prop} {o : Own} {c : Ch} (h : ChAt w X o c) (k : Nat) (hk : k < c.nb) (u : Int) : ChAt (w.setCell ⟨o.bb, k * 4 + 3, none⟩ (.int .i64 u)) X o { c with wear := up1 c.wear k u } :=
  h.putB _ _ _ ⟨rfl, rfl, rfl, rfl, rfl, rfl, rfl, rfl, rfl⟩ fun cs hc => ⟨by rw [Array.size_setIfInBounds]; exact hc.1, fun j hj => by
    obtain ⟨g0, g1, g2, g3⟩ := hc.2 j hj
    have hz := hc.1
    by_cases e : j = k
    · subst e
      exact ⟨(set_ne (by omega)).trans g0, (set_ne (by omega)).trans g1, (set_ne (by omega)).trans g2, (set_at (by omega)).trans (by simp only [up1_at])⟩
    · exact ⟨(set_ne (by omega)).trans g0, (set_ne (by omega)).trans g1, (set_ne (by omega)).trans g2, (set_ne (by omega)).trans (by simp only [up1_ne _ _ e]; exact g3)⟩⟩

/-- a store into the row of a block's pages -/
theorem ChAt.putPg {w : World} {X : Nat → Prop} {o : Own} {c : Ch} (h : ChAt w X o c) (k i : Nat) (hk : k < c.nb) (hi : i < c.np) (v : Value) (p : Option (List Int)) (hp : PgAt w X v (c.sz + 32) p) :
    ChAt (w.setCell ⟨o.pb k, i, none⟩ v) X o { c with pg := up2 c.pg k i p } := by
  have hkp := Kp.one w ⟨o.pb k, i, none⟩ v
  have hX : X (o.pb k) := h.inX _ (.inr (.inr ⟨k, hk, rfl⟩))
  have hf : ∀ b, b = o.pb k → X b := fun b e => e ▸ hX
  refine ⟨h.good, fun b hb => Nat.lt_of_lt_of_le (h.old b hb) hkp.size, h.inX, h.neb, h.nep, h.inj, ?_, ?_, ?_⟩
  · obtain ⟨fv, h1, h2⟩ := h.chip
    exact ⟨fv, h1.kp hkp (fun e => (h.nep k hk).1 e.symm), h2.kp hkp hf⟩
  · obtain ⟨cs, h1, h2⟩ := h.blocks
    exact ⟨cs, h1.kp hkp (fun e => (h.nep k hk).2 e.symm), h2⟩
  · intro j hj
    obtain ⟨cs, h1, h2, h3⟩ := h.pages j hj
    by_cases e : j = k
    · subst e
      refine ⟨_, h1.put i v, by rw [Array.size_setIfInBounds]; exact h2, fun n hn => ?_⟩
      show ∃ v', _ ∧ PgAt _ _ _ _ (up2 c.pg j i p j n)
      have eu : up2 c.pg j i p j = up1 (c.pg j) i p := up1_at _ _ _
      rw [eu]
      by_cases en : n = i
      · subst en
        rw [up1_at]
        exact ⟨v, set_at (by rw [h2]; exact hn), hp.kp hkp hf⟩
      · rw [up1_ne _ _ en, set_ne (fun g => en g.symm)]
        obtain ⟨u, g1, g2⟩ := h3 n hn
        exact ⟨u, g1, g2.kp hkp hf⟩
    · refine ⟨cs, h1.kp hkp (fun g => e (h.inj _ _ hj hk g)), h2, fun n hn => ?_⟩
      show ∃ v', _ ∧ PgAt _ _ _ _ (up2 c.pg k i p j n)
      have eu : up2 c.pg k i p j = c.pg j := up1_ne _ _ e
      rw [eu]
      obtain ⟨u, g1, g2⟩ := h3 n hn
      exact ⟨u, g1, g2.kp hkp hf⟩
end Go.Proofs.Ytnnpdlebgfjihaa
