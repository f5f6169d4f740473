/-
  Stores into the document's chip in memory, and its calls that store: marking, a script, a stroke.
-/
import Derived.Test.YtiaaeiefgnoiaaaRefChip
import Derived.Test.YtiaaeiefgnoiaaaNandLong
import Derived.WalkMore
namespace Go.Proofs.Ytiaaeiefgnoiaaa
open Go.RowKit Crcm Go.ChangeShapes

theorem FlAt.set {X : Nat → Prop} {w : World} {v : Value} {fl : List Fl} (h : FlAt w X v fl) {p : Addr} (hp : X p.block) (u : Value) : FlAt (w.setCell p u) X v fl :=
  h.kp (F := fun b => b = p.block) (Kp.setCell (F := fun b => b = p.block) (p := p) (Kp.refl _ w) (.inl rfl) u) (fun _ e => e ▸ hp)
theorem BvX.set {X : Nat → Prop} {w : World} {v : Value} (h : BvX w X v) {p : Addr} (hp : X p.block) (u : Value) : BvX (w.setCell p u) X v :=
  h.kp (F := fun b => b = p.block) (Kp.setCell (F := fun b => b = p.block) (p := p) (Kp.refl _ w) (.inl rfl) u) (fun _ e => e ▸ hp)
theorem size_set (w : World) (p : Addr) (u : Value) : w.heap.size ≤ (w.setCell p u).heap.size := ((Kp.refl (fun b => b = p.block) w).setCell (.inl rfl) u).size
theorem row_put {α : Type} (f : α → Value) {cs : Array Value} {n : Nat} (h : cs.size = n ∧ ∀ j, j < n → ∃ z, cs[j]? = some (f z)) (i : Nat) (z : α) :
    (cs.setIfInBounds i (f z)).size = n ∧ ∀ j, j < n → ∃ y, (cs.setIfInBounds i (f z))[j]? = some (f y) := by
  refine ⟨by simpa using h.1, fun j hj => ?_⟩
  rw [Array.getElem?_setIfInBounds]
  split
  · rw [if_pos (by rw [h.1]; omega)]; exact ⟨z, rfl⟩
  · exact h.2 j hj
theorem row_putP (P : Value → Prop) {cs : Array Value} {n : Nat} (h : cs.size = n ∧ ∀ j, j < n → ∃ v, cs[j]? = some v ∧ P v) (i : Nat) (u : Value) (hu : P u) :
    (cs.setIfInBounds i u).size = n ∧ ∀ j, j < n → ∃ v, (cs.setIfInBounds i u)[j]? = some v ∧ P v := by
  refine ⟨by simpa using h.1, fun j hj => ?_⟩
  rw [Array.getElem?_setIfInBounds]
  split
  · rw [if_pos (by rw [h.1]; omega)]; exact ⟨u, rfl, hu⟩
  · exact h.2 j hj

theorem RcAt.putf {w : World} {X : Nat → Prop} {o : Rb} {nb np sz : Nat} {dn : Bool} (h : RcAt w X o nb np sz dn) {v : Value} {gl : List Fl} (hv : FlAt w X v gl) : RcAt (w.setCell ⟨o.g, 8, none⟩ (v)) X o nb np sz dn := by
  obtain ⟨n1, n2, n3, n4, n5, n6, n7, n8, n9, n10, n11, n12, n13, n14, n15⟩ := h.ne
  have hx : X o.g := h.inX _ (by simp [Rb.F])
  refine ⟨h.good, fun b hb => Nat.lt_of_lt_of_le (h.old b hb) (size_set ..), h.inX, h.ne, ?_, ?_, ?_, ?_, ?_, ?_⟩
  · obtain ⟨fv, fl, si, st, rd, h1, h2⟩ := h.chip
    exact ⟨v, gl, si, st, rd, h1.put 8 _, hv.set hx _⟩
  · obtain ⟨cs, h1, h2, h3⟩ := h.pages
    exact ⟨cs, h1.far (by show o.p ≠ o.g; omega) _, h2, fun j hj => (h3 j hj).imp fun v hv => ⟨hv.1, hv.2.set hx _⟩⟩
  · obtain ⟨cs, h1, h2⟩ := h.next
    exact ⟨cs, h1.far (by show o.n ≠ o.g; omega) _, h2⟩
  · obtain ⟨cs, h1, h2⟩ := h.broken
    exact ⟨cs, h1.far (by show o.k ≠ o.g; omega) _, h2⟩
  · obtain ⟨cs, h1, h2⟩ := h.bad
    exact ⟨cs, h1.far (by show o.b ≠ o.g; omega) _, h2⟩
  · obtain ⟨cs, h1, h2⟩ := h.wear
    exact ⟨cs, h1.far (by show o.v ≠ o.g; omega) _, h2⟩
theorem RcAt.puts {w : World} {X : Nat → Prop} {o : Rb} {nb np sz : Nat} {dn : Bool} (h : RcAt w X o nb np sz dn) (z : Int) : RcAt (w.setCell ⟨o.g, 9, none⟩ (.int .i64 z)) X o nb np sz dn := by
  obtain ⟨n1, n2, n3, n4, n5, n6, n7, n8, n9, n10, n11, n12, n13, n14, n15⟩ := h.ne
  have hx : X o.g := h.inX _ (by simp [Rb.F])
  refine ⟨h.good, fun b hb => Nat.lt_of_lt_of_le (h.old b hb) (size_set ..), h.inX, h.ne, ?_, ?_, ?_, ?_, ?_, ?_⟩
  · obtain ⟨fv, fl, si, st, rd, h1, h2⟩ := h.chip
    exact ⟨fv, fl, z, st, rd, h1.put 9 _, h2.set hx _⟩
  · obtain ⟨cs, h1, h2, h3⟩ := h.pages
    exact ⟨cs, h1.far (by show o.p ≠ o.g; omega) _, h2, fun j hj => (h3 j hj).imp fun v hv => ⟨hv.1, hv.2.set hx _⟩⟩
  · obtain ⟨cs, h1, h2⟩ := h.next
    exact ⟨cs, h1.far (by show o.n ≠ o.g; omega) _, h2⟩
  · obtain ⟨cs, h1, h2⟩ := h.broken
    exact ⟨cs, h1.far (by show o.k ≠ o.g; omega) _, h2⟩
  · obtain ⟨cs, h1, h2⟩ := h.bad
    exact ⟨cs, h1.far (by show o.b ≠ o.g; omega) _, h2⟩
  · obtain ⟨cs, h1, h2⟩ := h.wear
    exact ⟨cs, h1.far (by show o.v ≠ o.g; omega) _, h2⟩
theorem RcAt.putd {w : World} {X : Nat → Prop} {o : Rb} {nb np sz : Nat} {dn : Bool} (h : RcAt w X o nb np sz dn) (z : Bool) : RcAt (w.setCell ⟨o.g, 10, none⟩ (.bool z)) X o nb np sz z := by
  obtain ⟨n1, n2, n3, n4, n5, n6, n7, n8, n9, n10, n11, n12, n13, n14, n15⟩ := h.ne
  have hx : X o.g := h.inX _ (by simp [Rb.F])
  refine ⟨h.good, fun b hb => Nat.lt_of_lt_of_le (h.old b hb) (size_set ..), h.inX, h.ne, ?_, ?_, ?_, ?_, ?_, ?_⟩
  · obtain ⟨fv, fl, si, st, rd, h1, h2⟩ := h.chip
    exact ⟨fv, fl, si, st, rd, h1.put 10 _, h2.set hx _⟩
  · obtain ⟨cs, h1, h2, h3⟩ := h.pages
    exact ⟨cs, h1.far (by show o.p ≠ o.g; omega) _, h2, fun j hj => (h3 j hj).imp fun v hv => ⟨hv.1, hv.2.set hx _⟩⟩
  · obtain ⟨cs, h1, h2⟩ := h.next
    exact ⟨cs, h1.far (by show o.n ≠ o.g; omega) _, h2⟩
  · obtain ⟨cs, h1, h2⟩ := h.broken
    exact ⟨cs, h1.far (by show o.k ≠ o.g; omega) _, h2⟩
  · obtain ⟨cs, h1, h2⟩ := h.bad
    exact ⟨cs, h1.far (by show o.b ≠ o.g; omega) _, h2⟩
  · obtain ⟨cs, h1, h2⟩ := h.wear
    exact ⟨cs, h1.far (by show o.v ≠ o.g; omega) _, h2⟩
theorem RcAt.putt {w : World} {X : Nat → Prop} {o : Rb} {nb np sz : Nat} {dn : Bool} (h : RcAt w X o nb np sz dn) (z : Int) : RcAt (w.setCell ⟨o.g, 11, none⟩ (.int .i64 z)) X o nb np sz dn := by
  obtain ⟨n1, n2, n3, n4, n5, n6, n7, n8, n9, n10, n11, n12, n13, n14, n15⟩ := h.ne
  have hx : X o.g := h.inX _ (by simp [Rb.F])
  refine ⟨h.good, fun b hb => Nat.lt_of_lt_of_le (h.old b hb) (size_set ..), h.inX, h.ne, ?_, ?_, ?_, ?_, ?_, ?_⟩
  · obtain ⟨fv, fl, si, st, rd, h1, h2⟩ := h.chip
    exact ⟨fv, fl, si, z, rd, h1.put 11 _, h2.set hx _⟩
  · obtain ⟨cs, h1, h2, h3⟩ := h.pages
    exact ⟨cs, h1.far (by show o.p ≠ o.g; omega) _, h2, fun j hj => (h3 j hj).imp fun v hv => ⟨hv.1, hv.2.set hx _⟩⟩
  · obtain ⟨cs, h1, h2⟩ := h.next
    exact ⟨cs, h1.far (by show o.n ≠ o.g; omega) _, h2⟩
  · obtain ⟨cs, h1, h2⟩ := h.broken
    exact ⟨cs, h1.far (by show o.k ≠ o.g; omega) _, h2⟩
  · obtain ⟨cs, h1, h2⟩ := h.bad
    exact ⟨cs, h1.far (by show o.b ≠ o.g; omega) _, h2⟩
  · obtain ⟨cs, h1, h2⟩ := h.wear
    exact ⟨cs, h1.far (by show o.v ≠ o.g; omega) _, h2⟩
theorem RcAt.putr {w : World} {X : Nat → Prop} {o : Rb} {nb np sz : Nat} {dn : Bool} (h : RcAt w X o nb np sz dn) (z : Int) : RcAt (w.setCell ⟨o.g, 12, none⟩ (.int .i64 z)) X o nb np sz dn := by
  obtain ⟨n1, n2, n3, n4, n5, n6, n7, n8, n9, n10, n11, n12, n13, n14, n15⟩ := h.ne
  have hx : X o.g := h.inX _ (by simp [Rb.F])
  refine ⟨h.good, fun b hb => Nat.lt_of_lt_of_le (h.old b hb) (size_set ..), h.inX, h.ne, ?_, ?_, ?_, ?_, ?_, ?_⟩
  · obtain ⟨fv, fl, si, st, rd, h1, h2⟩ := h.chip
    exact ⟨fv, fl, si, st, z, h1.put 12 _, h2.set hx _⟩
  · obtain ⟨cs, h1, h2, h3⟩ := h.pages
    exact ⟨cs, h1.far (by show o.p ≠ o.g; omega) _, h2, fun j hj => (h3 j hj).imp fun v hv => ⟨hv.1, hv.2.set hx _⟩⟩
  · obtain ⟨cs, h1, h2⟩ := h.next
    exact ⟨cs, h1.far (by show o.n ≠ o.g; omega) _, h2⟩
  · obtain ⟨cs, h1, h2⟩ := h.broken
    exact ⟨cs, h1.far (by show o.k ≠ o.g; omega) _, h2⟩
  · obtain ⟨cs, h1, h2⟩ := h.bad
    exact ⟨cs, h1.far (by show o.b ≠ o.g; omega) _, h2⟩
  · obtain ⟨cs, h1, h2⟩ := h.wear
    exact ⟨cs, h1.far (by show o.v ≠ o.g; omega) _, h2⟩
theorem RcAt.putn {w : World} {X : Nat → Prop} {o : Rb} {nb np sz : Nat} {dn : Bool} (h : RcAt w X o nb np sz dn) (i : Nat) (z : Int) : RcAt (w.setCell ⟨o.n, i, none⟩ (.int .i64 z)) X o nb np sz dn := by
  obtain ⟨n1, n2, n3, n4, n5, n6, n7, n8, n9, n10, n11, n12, n13, n14, n15⟩ := h.ne
  have hx : X o.n := h.inX _ (by simp [Rb.F])
  refine ⟨h.good, fun b hb => Nat.lt_of_lt_of_le (h.old b hb) (size_set ..), h.inX, h.ne, ?_, ?_, ?_, ?_, ?_, ?_⟩
  · obtain ⟨fv, fl, si, st, rd, h1, h2⟩ := h.chip
    exact ⟨fv, fl, si, st, rd, h1.far (by show o.g ≠ o.n; omega) _, h2.set hx _⟩
  · obtain ⟨cs, h1, h2, h3⟩ := h.pages
    exact ⟨cs, h1.far (by show o.p ≠ o.n; omega) _, h2, fun j hj => (h3 j hj).imp fun v hv => ⟨hv.1, hv.2.set hx _⟩⟩
  · obtain ⟨cs, h1, h2⟩ := h.next
    exact ⟨_, h1.put _ _, row_put (Value.int .i64) h2 _ _⟩
  · obtain ⟨cs, h1, h2⟩ := h.broken
    exact ⟨cs, h1.far (by show o.k ≠ o.n; omega) _, h2⟩
  · obtain ⟨cs, h1, h2⟩ := h.bad
    exact ⟨cs, h1.far (by show o.b ≠ o.n; omega) _, h2⟩
  · obtain ⟨cs, h1, h2⟩ := h.wear
    exact ⟨cs, h1.far (by show o.v ≠ o.n; omega) _, h2⟩
theorem RcAt.putk {w : World} {X : Nat → Prop} {o : Rb} {nb np sz : Nat} {dn : Bool} (h : RcAt w X o nb np sz dn) (i : Nat) (z : Bool) : RcAt (w.setCell ⟨o.k, i, none⟩ (.bool z)) X o nb np sz dn := by
  obtain ⟨n1, n2, n3, n4, n5, n6, n7, n8, n9, n10, n11, n12, n13, n14, n15⟩ := h.ne
  have hx : X o.k := h.inX _ (by simp [Rb.F])
  refine ⟨h.good, fun b hb => Nat.lt_of_lt_of_le (h.old b hb) (size_set ..), h.inX, h.ne, ?_, ?_, ?_, ?_, ?_, ?_⟩
  · obtain ⟨fv, fl, si, st, rd, h1, h2⟩ := h.chip
    exact ⟨fv, fl, si, st, rd, h1.far (by show o.g ≠ o.k; omega) _, h2.set hx _⟩
  · obtain ⟨cs, h1, h2, h3⟩ := h.pages
    exact ⟨cs, h1.far (by show o.p ≠ o.k; omega) _, h2, fun j hj => (h3 j hj).imp fun v hv => ⟨hv.1, hv.2.set hx _⟩⟩
  · obtain ⟨cs, h1, h2⟩ := h.next
    exact ⟨cs, h1.far (by show o.n ≠ o.k; omega) _, h2⟩
  · obtain ⟨cs, h1, h2⟩ := h.broken
    exact ⟨_, h1.put _ _, row_put Value.bool h2 _ _⟩
  · obtain ⟨cs, h1, h2⟩ := h.bad
    exact ⟨cs, h1.far (by show o.b ≠ o.k; omega) _, h2⟩
  · obtain ⟨cs, h1, h2⟩ := h.wear
    exact ⟨cs, h1.far (by show o.v ≠ o.k; omega) _, h2⟩
theorem RcAt.putb {w : World} {X : Nat → Prop} {o : Rb} {nb np sz : Nat} {dn : Bool} (h : RcAt w X o nb np sz dn) (i : Nat) (z : Bool) : RcAt (w.setCell ⟨o.b, i, none⟩ (.bool z)) X o nb np sz dn := by
  obtain ⟨n1, n2, n3, n4, n5, n6, n7, n8, n9, n10, n11, n12, n13, n14, n15⟩ := h.ne
  have hx : X o.b := h.inX _ (by simp [Rb.F])
  refine ⟨h.good, fun b hb => Nat.lt_of_lt_of_le (h.old b hb) (size_set ..), h.inX, h.ne, ?_, ?_, ?_, ?_, ?_, ?_⟩
  · obtain ⟨fv, fl, si, st, rd, h1, h2⟩ := h.chip
    exact ⟨fv, fl, si, st, rd, h1.far (by show o.g ≠ o.b; omega) _, h2.set hx _⟩
  · obtain ⟨cs, h1, h2, h3⟩ := h.pages
    exact ⟨cs, h1.far (by show o.p ≠ o.b; omega) _, h2, fun j hj => (h3 j hj).imp fun v hv => ⟨hv.1, hv.2.set hx _⟩⟩
  · obtain ⟨cs, h1, h2⟩ := h.next
    exact ⟨cs, h1.far (by show o.n ≠ o.b; omega) _, h2⟩
  · obtain ⟨cs, h1, h2⟩ := h.broken
    exact ⟨cs, h1.far (by show o.k ≠ o.b; omega) _, h2⟩
  · obtain ⟨cs, h1, h2⟩ := h.bad
    exact ⟨_, h1.put _ _, row_put Value.bool h2 _ _⟩
  · obtain ⟨cs, h1, h2⟩ := h.wear
    exact ⟨cs, h1.far (by show o.v ≠ o.b; omega) _, h2⟩
theorem RcAt.putv {w : World} {X : Nat → Prop} {o : Rb} {nb np sz : Nat} {dn : Bool} (h : RcAt w X o nb np sz dn) (i : Nat) (z : Int) : RcAt (w.setCell ⟨o.v, i, none⟩ (.int .i64 z)) X o nb np sz dn := by
  obtain ⟨n1, n2, n3, n4, n5, n6, n7, n8, n9, n10, n11, n12, n13, n14, n15⟩ := h.ne
  have hx : X o.v := h.inX _ (by simp [Rb.F])
  refine ⟨h.good, fun b hb => Nat.lt_of_lt_of_le (h.old b hb) (size_set ..), h.inX, h.ne, ?_, ?_, ?_, ?_, ?_, ?_⟩
  · obtain ⟨fv, fl, si, st, rd, h1, h2⟩ := h.chip
    exact ⟨fv, fl, si, st, rd, h1.far (by show o.g ≠ o.v; omega) _, h2.set hx _⟩
  · obtain ⟨cs, h1, h2, h3⟩ := h.pages
    exact ⟨cs, h1.far (by show o.p ≠ o.v; omega) _, h2, fun j hj => (h3 j hj).imp fun v hv => ⟨hv.1, hv.2.set hx _⟩⟩
  · obtain ⟨cs, h1, h2⟩ := h.next
    exact ⟨cs, h1.far (by show o.n ≠ o.v; omega) _, h2⟩
  · obtain ⟨cs, h1, h2⟩ := h.broken
    exact ⟨cs, h1.far (by show o.k ≠ o.v; omega) _, h2⟩
  · obtain ⟨cs, h1, h2⟩ := h.bad
    exact ⟨cs, h1.far (by show o.b ≠ o.v; omega) _, h2⟩
  · obtain ⟨cs, h1, h2⟩ := h.wear
    exact ⟨_, h1.put _ _, row_put (Value.int .i64) h2 _ _⟩
theorem RcAt.putp {w : World} {X : Nat → Prop} {o : Rb} {nb np sz : Nat} {dn : Bool} (h : RcAt w X o nb np sz dn) (i : Nat) {u : Value} (hu : BvX w X u) : RcAt (w.setCell ⟨o.p, i, none⟩ (u)) X o nb np sz dn := by
  obtain ⟨n1, n2, n3, n4, n5, n6, n7, n8, n9, n10, n11, n12, n13, n14, n15⟩ := h.ne
  have hx : X o.p := h.inX _ (by simp [Rb.F])
  refine ⟨h.good, fun b hb => Nat.lt_of_lt_of_le (h.old b hb) (size_set ..), h.inX, h.ne, ?_, ?_, ?_, ?_, ?_, ?_⟩
  · obtain ⟨fv, fl, si, st, rd, h1, h2⟩ := h.chip
    exact ⟨fv, fl, si, st, rd, h1.far (by show o.g ≠ o.p; omega) _, h2.set hx _⟩
  · obtain ⟨cs, h1, h2, h3⟩ := h.pages
    have h4 := row_putP (BvX (w.setCell ⟨o.p, i, none⟩ (u)) X) ⟨h2, fun j hj => (h3 j hj).imp fun v hv => ⟨hv.1, hv.2.set hx _⟩⟩ i (u) (hu.set hx _)
    exact ⟨_, h1.put _ _, h4⟩
  · obtain ⟨cs, h1, h2⟩ := h.next
    exact ⟨cs, h1.far (by show o.n ≠ o.p; omega) _, h2⟩
  · obtain ⟨cs, h1, h2⟩ := h.broken
    exact ⟨cs, h1.far (by show o.k ≠ o.p; omega) _, h2⟩
  · obtain ⟨cs, h1, h2⟩ := h.bad
    exact ⟨cs, h1.far (by show o.b ≠ o.p; omega) _, h2⟩
  · obtain ⟨cs, h1, h2⟩ := h.wear
    exact ⟨cs, h1.far (by show o.v ≠ o.p; omega) _, h2⟩

/-- what is written into the chip's own blocks turns nothing else -/
theorem kp_set {w w' : World} {o : Rb} {i q : Nat} {u : Value} (hk : Kp o.F w w') (hq : o.F q) : Kp o.F w (w'.setCell ⟨q, i, none⟩ u) := hk.setCell (.inl hq) u

theorem placeF_ok {nb np : Nat} {dn : Bool} {k page : Int} (h : placeF nb np dn k page = 0) : dn = false ∧ 0 ≤ k ∧ k < nb ∧ 0 ≤ page ∧ page < np := by
  unfold placeF at h
  cases dn
  · rw [if_neg (by decide)] at h
    split at h
    · cases h
    · exact ⟨rfl, by omega, by omega, by omega, by omega⟩
  · cases h

/-- the cells of rows that calls read -/
theorem RcAt.row {w : World} {X : Nat → Prop} {o : Rb} {nb np sz : Nat} {dn : Bool} (h : RcAt w X o nb np sz dn) {k : Nat} (hk : k < nb) :
    (∃ z, w.cell? ⟨o.n, k, none⟩ = some (.int .i64 z)) ∧ (∃ z, w.cell? ⟨o.k, k, none⟩ = some (.bool z)) ∧ (∃ z, w.cell? ⟨o.b, k, none⟩ = some (.bool z)) ∧ (∃ z, w.cell? ⟨o.v, k, none⟩ = some (.int .i64 z)) := by
  obtain ⟨c1, h1, -, g1⟩ := h.next
  obtain ⟨c2, h2, -, g2⟩ := h.broken
  obtain ⟨c3, h3, -, g3⟩ := h.bad
  obtain ⟨c4, h4, -, g4⟩ := h.wear
  exact ⟨(g1 k hk).imp fun z hz => (h1.cell k).trans hz, (g2 k hk).imp fun z hz => (h2.cell k).trans hz, (g3 k hk).imp fun z hz => (h3.cell k).trans hz, (g4 k hk).imp fun z hz => (h4.cell k).trans hz⟩
theorem RcAt.froz {w : World} {X : Nat → Prop} {o : Rb} {nb np sz : Nat} {dn : Bool} (h : RcAt w X o nb np sz dn) (i : Nat) :
    w.frozen? ⟨o.g, i, none⟩ = false ∧ w.frozen? ⟨o.p, i, none⟩ = false ∧ w.frozen? ⟨o.n, i, none⟩ = false ∧ w.frozen? ⟨o.k, i, none⟩ = false ∧ w.frozen? ⟨o.b, i, none⟩ = false ∧ w.frozen? ⟨o.v, i, none⟩ = false := by
  obtain ⟨_, _, _, _, _, h0, -⟩ := h.chip
  obtain ⟨_, h5, -⟩ := h.pages
  obtain ⟨c1, h1, -⟩ := h.next
  obtain ⟨c2, h2, -⟩ := h.broken
  obtain ⟨c3, h3, -⟩ := h.bad
  obtain ⟨c4, h4, -⟩ := h.wear
  exact ⟨h0.frozen i, h5.frozen i, h1.frozen i, h2.frozen i, h3.frozen i, h4.frozen i⟩
theorem RcAt.rows {w : World} {X : Nat → Prop} {o : Rb} {nb np sz : Nat} {dn : Bool} (h : RcAt w X o nb np sz dn) :
    w.cell? ⟨o.g, 3, none⟩ = some (.slice (some ⟨o.p, 0, none⟩) (nb * np : Nat) (nb * np : Nat)) ∧ w.cell? ⟨o.g, 4, none⟩ = some (.slice (some ⟨o.n, 0, none⟩) nb nb) ∧ w.cell? ⟨o.g, 5, none⟩ = some (.slice (some ⟨o.k, 0, none⟩) nb nb) ∧ w.cell? ⟨o.g, 6, none⟩ = some (.slice (some ⟨o.b, 0, none⟩) nb nb) ∧ w.cell? ⟨o.g, 7, none⟩ = some (.slice (some ⟨o.v, 0, none⟩) nb nb) := by
  obtain ⟨fv, fl, si, st, rd, h1, -⟩ := h.chip
  exact ⟨h1.cell 3, h1.cell 4, h1.cell 5, h1.cell 6, h1.cell 7⟩

set_option maxRecDepth 100000 in
set_option maxHeartbeats 1000000 in
theorem rmark_any {w : World} {X : Nat → Prop} {o : Rb} {nb np sz : Nat} {dn : Bool} (h : RcAt w X o nb np sz dn) (k : Int) :
    Calls Try.prog 40 #[.pointer (some ⟨o.g, 0, none⟩), .int .i64 k] w fun e w' => e = .returned (.int .i64 (placeF nb np dn k 0)) ∧ RcAt w' X o nb np sz dn ∧ Kp o.F w w' := by
  have HP := Lib.hid (rplace_any h k 0)
  by_cases hp : placeF nb np dn k 0 = 0
  · rw [hp] at HP ⊢
    obtain ⟨-, h0, h1, -, -⟩ := placeF_ok hp
    obtain ⟨n, rfl⟩ : ∃ n : Nat, k = n := ⟨k.toNat, by omega⟩
    have hn : n < nb := by omega
    have hnb : nb < 129 := h.good.2.1
    obtain ⟨-, -, -, c6, -⟩ := h.rows
    have f6 := (h.froz n).2.2.2.2.1
    obtain ⟨-, -, ⟨z, c7⟩, -⟩ := h.row hn
    have HR := Lib.hid (h.putb n true)
    have HK := Lib.hid (kp_set (i := n) (u := .bool true) (Kp.refl o.F w) (q := o.b) (by simp [Rb.F]))
    clear h hp
    go_enter Try.func40, Try.ntmps40
    go_wp2_with fail
    refine HP.out.mono ?_
    rintro e w' ⟨rfl, rfl⟩
    go_wp2
    go_ret
    exact ⟨rfl, HR.out, HK.out⟩
  · have H := Lib.hid h
    generalize placeF nb np dn k 0 = r at hp HP ⊢
    have q : (r != 0) = true := by simp [hp]
    clear h hp
    go_enter Try.func40, Try.ntmps40
    go_wp2_with fail
    refine HP.out.mono ?_
    rintro e w' ⟨rfl, rfl⟩
    go_wp2
    go_ret
    exact ⟨rfl, H.out, Kp.refl _ _⟩

set_option maxRecDepth 100000 in
set_option maxHeartbeats 1000000 in
theorem rscript_any {w : World} {X : Nat → Prop} {o : Rb} {nb np sz : Nat} {dn : Bool} (h : RcAt w X o nb np sz dn) (a : Option Addr) (n c : Nat) (fl : List Fl) (hf : FlAt w X (.slice a n c) fl) :
    Calls Try.prog 43 #[.pointer (some ⟨o.g, 0, none⟩), .slice a n c] w fun e w' => (e = .returned (.int .i64 0) ∨ e = .returned (.int .i64 1)) ∧ RcAt w' X o nb np sz dn ∧ Kp o.F w w' := by
  have H := Lib.hid h
  obtain ⟨a', c', he, hm, hrow⟩ := hf
  injection he with e1 e2 e3
  subst e1 e2 e3
  have HF := Lib.hid (show FlAt w X (.slice a fl.length c) fl from ⟨a, c, rfl, hm, hrow⟩)
  obtain ⟨n, hn⟩ : ∃ n, fl.length = n := ⟨_, rfl⟩
  unfold maxLen at hm
  have HRow := Lib.hid hrow
  have HN := Lib.hid hn
  rw [hn] at hm HF ⊢
  have f8 := (h.froz 8).1
  have f9 := (h.froz 9).1
  have HR := Lib.hid ((h.putf HF.out).puts 0)
  have HK := Lib.hid (kp_set (i := 9) (u := .int .i64 0) (q := o.g) (kp_set (i := 8) (u := .slice a n c) (Kp.refl o.F w) (q := o.g) (.inl rfl)) (.inl rfl))
  obtain ⟨_, _, _, _, _, hb, -⟩ := h.chip
  have c8 := hb.cell 8
  have c9 := hb.cell 9
  simp [rcV] at c8 c9
  clear h hrow hn hb
  go_enter Try.func43, Try.ntmps43
  go_wp2_with fail
  go_loop [5] (fun i => ∃ k : Nat, k ≤ n ∧ i = .int .i64 k) (fun i => n - (intOf i).toNat)
  case atStart => exact ⟨0, by omega, rfl⟩
  case round =>
    obtain ⟨k, hk, rfl⟩ := hrel
    by_cases hlt : k < n
    · have kl : (k : Int) < (n : Int) := by omega
      have hkl : k < fl.length := by rw [HN.out]; exact hlt
      rcases HRow.out with h0 | ⟨b, off, rfl, -, hcs⟩
      · rw [h0] at hkl; simp at hkl
      obtain ⟨q0, -⟩ := hcs k hkl
      generalize fl[k] = f at q0
      clear hcs hkl
      by_cases hz : f.at' < 0
      · go_wp2
        go_ret
        exact ⟨.inr rfl, H.out, Kp.refl _ _⟩
      · go_wp2
        go_round
        case rel => exact ⟨k + 1, by omega, by go_num⟩
        case measure => simp [intOf]; omega
    · have kl : ¬ (k : Int) < (n : Int) := by omega
      go_wp2
      go_ret
      exact ⟨.inl rfl, HR.out, HK.out⟩

end Go.Proofs.Ytiaaeiefgnoiaaa
