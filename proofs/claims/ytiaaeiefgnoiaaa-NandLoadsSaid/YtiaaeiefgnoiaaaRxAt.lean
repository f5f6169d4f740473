/-
  The document's chip in memory, with all that stands in it, and its stores (made by gen_rx.py).
-/
import Derived.Test.YtiaaeiefgnoiaaaRefStroke
import Derived.Test.YtiaaeiefgnoiaaaNandDump
namespace Go.Proofs.Ytiaaeiefgnoiaaa
open Go.RowKit Crcm Go.ChangeShapes

/-- a chip's values: its pages in one row -/
structure Rx where
  nb : Nat
  np : Nat
  sz : Nat
  pg : Nat → List Int
  nx : Nat → Int
  br : Nat → Bool
  bad : Nat → Bool
  wr : Nat → Int
  fl : List Fl
  si : Int
  dn : Bool
  st : Int
  rd : Int
/-- the document's chip in memory; X: what may be written by anyone -/
structure RxAt (w : World) (X : Nat → Prop) (o : Rb) (c : Rx) : Prop where
  good : Gd c.nb c.np c.sz
  old : ∀ b, X b → b < w.heap.size
  inX : ∀ b, o.F b → X b
  ne : o.g ≠ o.p ∧ o.g ≠ o.n ∧ o.g ≠ o.k ∧ o.g ≠ o.b ∧ o.g ≠ o.v ∧ o.p ≠ o.n ∧ o.p ≠ o.k ∧ o.p ≠ o.b ∧ o.p ≠ o.v ∧ o.n ≠ o.k ∧ o.n ≠ o.b ∧ o.n ≠ o.v ∧ o.k ≠ o.b ∧ o.k ≠ o.v ∧ o.b ≠ o.v
  chip : ∃ fv, Blk w o.g 78 (rcV o c.nb c.np c.sz fv c.si c.dn c.st c.rd) ∧ FlAt w X fv c.fl
  pages : ∃ cs, Blk w o.p 27 cs ∧ cs.size = c.nb * c.np ∧ ∀ i, i < c.nb * c.np → ∃ v, cs[i]? = some v ∧ PgX w X v (c.pg i)
  next : ∃ cs, Blk w o.n 3 cs ∧ cs.size = c.nb ∧ ∀ i, i < c.nb → cs[i]? = some (.int .i64 (c.nx i))
  broken : ∃ cs, Blk w o.k 4 cs ∧ cs.size = c.nb ∧ ∀ i, i < c.nb → cs[i]? = some (.bool (c.br i))
  bad : ∃ cs, Blk w o.b 4 cs ∧ cs.size = c.nb ∧ ∀ i, i < c.nb → cs[i]? = some (.bool (c.bad i))
  wear : ∃ cs, Blk w o.v 3 cs ∧ cs.size = c.nb ∧ ∀ i, i < c.nb → cs[i]? = some (.int .i64 (c.wr i))

theorem RxAt.rc {w : World} {X : Nat → Prop} {o : Rb} {c : Rx} (h : RxAt w X o c) : RcAt w X o c.nb c.np c.sz c.dn := by
  refine ⟨h.good, h.old, h.inX, h.ne, ?_, ?_, ?_, ?_, ?_, ?_⟩
  · obtain ⟨fv, h1, h2⟩ := h.chip
    exact ⟨fv, c.fl, _, _, _, h1, h2⟩
  · obtain ⟨cs, h1, h2, h3⟩ := h.pages
    refine ⟨cs, h1, h2, fun i hi => ?_⟩
    obtain ⟨v, g1, A, k, e, g2, g3⟩ := h3 i hi
    exact ⟨v, g1, A, _, k, e, g2, g3⟩
  · obtain ⟨cs, h1, h2, h3⟩ := h.next
    exact ⟨cs, h1, h2, fun i hi => ⟨_, h3 i hi⟩⟩
  · obtain ⟨cs, h1, h2, h3⟩ := h.broken
    exact ⟨cs, h1, h2, fun i hi => ⟨_, h3 i hi⟩⟩
  · obtain ⟨cs, h1, h2, h3⟩ := h.bad
    exact ⟨cs, h1, h2, fun i hi => ⟨_, h3 i hi⟩⟩
  · obtain ⟨cs, h1, h2, h3⟩ := h.wear
    exact ⟨cs, h1, h2, fun i hi => ⟨_, h3 i hi⟩⟩

theorem FlAt.step {F X X' : Nat → Prop} {w w' : World} {v : Value} {fl : List Fl} (h : FlAt w X v fl) (hk : Kp F w w') (hF : ∀ b, F b → X b ∨ w.heap.size ≤ b) (hX : ∀ b, X' b → X b ∨ w.heap.size ≤ b) : FlAt w' X' v fl := by
  have h1 : FlAt w (fun b => X b ∨ w.heap.size ≤ b) v fl := h.widen (Below.refl _ _) (fun b g => g)
  exact (h1.kp hk hF).narrow hX
/-- what leaves the chip's own blocks as they are leaves the chip -/
theorem RxAt.step {F X X' : Nat → Prop} {w w' : World} {o : Rb} {c : Rx} (h : RxAt w X o c) (hk : Kp F w w') (hF : ∀ b, F b → X b ∨ w.heap.size ≤ b) (hd : ∀ b, o.F b → ¬ F b)
    (hX : ∀ b, X' b → X b ∨ w.heap.size ≤ b) (hO : ∀ b, X' b → b < w'.heap.size) (hI : ∀ b, o.F b → X' b) : RxAt w' X' o c := by
  refine ⟨h.good, hO, hI, h.ne, ?_, ?_, ?_, ?_, ?_, ?_⟩
  · obtain ⟨fv, h1, h2⟩ := h.chip
    exact ⟨fv, h1.kp hk (hd _ (.inl rfl)), h2.step hk hF hX⟩
  · obtain ⟨cs, h1, h2, h3⟩ := h.pages
    refine ⟨cs, h1.kp hk (hd _ (.inr (.inl rfl))), h2, fun i hi => ?_⟩
    obtain ⟨v, g1, g2⟩ := h3 i hi
    exact ⟨v, g1, g2.step hk hF hX⟩
  · obtain ⟨cs, h1, h2⟩ := h.next
    exact ⟨cs, h1.kp hk (hd _ (.inr (.inr (.inl rfl)))), h2⟩
  · obtain ⟨cs, h1, h2⟩ := h.broken
    exact ⟨cs, h1.kp hk (hd _ (.inr (.inr (.inr (.inl rfl))))), h2⟩
  · obtain ⟨cs, h1, h2⟩ := h.bad
    exact ⟨cs, h1.kp hk (hd _ (.inr (.inr (.inr (.inr (.inl rfl)))))), h2⟩
  · obtain ⟨cs, h1, h2⟩ := h.wear
    exact ⟨cs, h1.kp hk (hd _ (.inr (.inr (.inr (.inr (.inr rfl)))))), h2⟩
theorem RxAt.kp {F X : Nat → Prop} {w w' : World} {o : Rb} {c : Rx} (h : RxAt w X o c) (hk : Kp F w w') (hf : ∀ b, F b → X b) (hd : ∀ b, o.F b → ¬ F b) : RxAt w' X o c :=
  h.step hk (fun b g => .inl (hf b g)) hd (fun _ g => .inl g) (fun b g => Nat.lt_of_lt_of_le (h.old b g) hk.size) h.inX
theorem RxAt.below {X : Nat → Prop} {w w' : World} {o : Rb} {c : Rx} (h : RxAt w X o c) (hb : Below w.heap.size w w') : RxAt w' X o c :=
  h.kp (F := fun _ => False) (Kp.of_below hb) (fun _ g => g.elim) (fun _ _ g => g)
theorem PgX.set {X : Nat → Prop} {w : World} {v : Value} {l : List Int} (h : PgX w X v l) {p : Addr} (hp : X p.block) (u : Value) : PgX (w.setCell p u) X v l :=
  h.step (F := fun b => b = p.block) (Kp.setCell (F := fun b => b = p.block) (p := p) (Kp.refl _ w) (.inl rfl) u) (fun _ e => .inl (e ▸ hp)) (fun _ g => .inl g)
theorem up1_put {α : Type} (g : α → Value) {cs : Array Value} {n : Nat} {f : Nat → α} (h : cs.size = n ∧ ∀ j, j < n → cs[j]? = some (g (f j))) {i : Nat} (hi : i < n) (z : α) :
    (cs.setIfInBounds i (g z)).size = n ∧ ∀ j, j < n → (cs.setIfInBounds i (g z))[j]? = some (g (up1 f i z j)) := by
  refine ⟨by simpa using h.1, fun j hj => ?_⟩
  rw [Array.getElem?_setIfInBounds]
  by_cases e : i = j
  · subst e
    rw [if_pos rfl, if_pos (by rw [h.1]; exact hi), up1_at]
  · rw [if_neg e, up1_ne _ _ (fun q => e q.symm)]; exact h.2 j hj
theorem up1_putP (P : Value → List Int → Prop) {cs : Array Value} {n : Nat} {f : Nat → List Int} (h : cs.size = n ∧ ∀ j, j < n → ∃ v, cs[j]? = some v ∧ P v (f j)) {i : Nat} (hi : i < n) (u : Value) (z : List Int) (hu : P u z) :
    (cs.setIfInBounds i u).size = n ∧ ∀ j, j < n → ∃ v, (cs.setIfInBounds i u)[j]? = some v ∧ P v (up1 f i z j) := by
  refine ⟨by simpa using h.1, fun j hj => ?_⟩
  rw [Array.getElem?_setIfInBounds]
  by_cases e : i = j
  · subst e
    rw [if_pos rfl, if_pos (by rw [h.1]; exact hi), up1_at]; exact ⟨u, rfl, hu⟩
  · rw [if_neg e, up1_ne _ _ (fun q => e q.symm)]; exact h.2 j hj

theorem RxAt.putf {w : World} {X : Nat → Prop} {o : Rb} {c : Rx} (h : RxAt w X o c) {v : Value} {gl : List Fl} (hv : FlAt w X v gl) : RxAt (w.setCell ⟨o.g, 8, none⟩ (v)) X o { c with fl := gl } := by
  obtain ⟨n1, n2, n3, n4, n5, n6, n7, n8, n9, n10, n11, n12, n13, n14, n15⟩ := h.ne
  have hx : X o.g := h.inX _ (by simp [Rb.F])
  refine ⟨h.good, fun b hb => Nat.lt_of_lt_of_le (h.old b hb) (size_set ..), h.inX, h.ne, ?_, ?_, ?_, ?_, ?_, ?_⟩
  · obtain ⟨fv, h1, h2⟩ := h.chip
    exact ⟨v, h1.put 8 _, hv.set hx _⟩
  · obtain ⟨cs, h1, h2, h3⟩ := h.pages
    exact ⟨cs, h1.far (by show o.p ≠ o.g; omega) _, h2, fun j hj => (h3 j hj).imp fun v hv => ⟨hv.1, hv.2.set hx _⟩⟩
  · obtain ⟨cs, h1, h2⟩ := h.next
    exact ⟨cs, h1.far (by show o.n ≠ o.g; omega) _, h2⟩
  · obtain ⟨cs, h1, h2⟩ := h.broken
    exact ⟨cs, h1.far (by show o.k ≠ o.g; omega) _, h2⟩
  · obtain ⟨cs, h1, h2⟩ := h.bad
    exact ⟨cs, h1.far (by show o.b ≠ o.g; omega) _, h2⟩
  · obtain ⟨cs, h1, h2⟩ := h.wear
    exact ⟨cs, h1.far (by show o.v ≠ o.g; omega) _, h2⟩

theorem RxAt.puts {w : World} {X : Nat → Prop} {o : Rb} {c : Rx} (h : RxAt w X o c) (z : Int) : RxAt (w.setCell ⟨o.g, 9, none⟩ (.int .i64 z)) X o { c with si := z } := by
  obtain ⟨n1, n2, n3, n4, n5, n6, n7, n8, n9, n10, n11, n12, n13, n14, n15⟩ := h.ne
  have hx : X o.g := h.inX _ (by simp [Rb.F])
  refine ⟨h.good, fun b hb => Nat.lt_of_lt_of_le (h.old b hb) (size_set ..), h.inX, h.ne, ?_, ?_, ?_, ?_, ?_, ?_⟩
  · obtain ⟨fv, h1, h2⟩ := h.chip
    exact ⟨fv, h1.put 9 _, h2.set hx _⟩
  · obtain ⟨cs, h1, h2, h3⟩ := h.pages
    exact ⟨cs, h1.far (by show o.p ≠ o.g; omega) _, h2, fun j hj => (h3 j hj).imp fun v hv => ⟨hv.1, hv.2.set hx _⟩⟩
  · obtain ⟨cs, h1, h2⟩ := h.next
    exact ⟨cs, h1.far (by show o.n ≠ o.g; omega) _, h2⟩
  · obtain ⟨cs, h1, h2⟩ := h.broken
    exact ⟨cs, h1.far (by show o.k ≠ o.g; omega) _, h2⟩
  · obtain ⟨cs, h1, h2⟩ := h.bad
    exact ⟨cs, h1.far (by show o.b ≠ o.g; omega) _, h2⟩
  · obtain ⟨cs, h1, h2⟩ := h.wear
    exact ⟨cs, h1.far (by show o.v ≠ o.g; omega) _, h2⟩

theorem RxAt.putd {w : World} {X : Nat → Prop} {o : Rb} {c : Rx} (h : RxAt w X o c) (z : Bool) : RxAt (w.setCell ⟨o.g, 10, none⟩ (.bool z)) X o { c with dn := z } := by
  obtain ⟨n1, n2, n3, n4, n5, n6, n7, n8, n9, n10, n11, n12, n13, n14, n15⟩ := h.ne
  have hx : X o.g := h.inX _ (by simp [Rb.F])
  refine ⟨h.good, fun b hb => Nat.lt_of_lt_of_le (h.old b hb) (size_set ..), h.inX, h.ne, ?_, ?_, ?_, ?_, ?_, ?_⟩
  · obtain ⟨fv, h1, h2⟩ := h.chip
    exact ⟨fv, h1.put 10 _, h2.set hx _⟩
  · obtain ⟨cs, h1, h2, h3⟩ := h.pages
    exact ⟨cs, h1.far (by show o.p ≠ o.g; omega) _, h2, fun j hj => (h3 j hj).imp fun v hv => ⟨hv.1, hv.2.set hx _⟩⟩
  · obtain ⟨cs, h1, h2⟩ := h.next
    exact ⟨cs, h1.far (by show o.n ≠ o.g; omega) _, h2⟩
  · obtain ⟨cs, h1, h2⟩ := h.broken
    exact ⟨cs, h1.far (by show o.k ≠ o.g; omega) _, h2⟩
  · obtain ⟨cs, h1, h2⟩ := h.bad
    exact ⟨cs, h1.far (by show o.b ≠ o.g; omega) _, h2⟩
  · obtain ⟨cs, h1, h2⟩ := h.wear
    exact ⟨cs, h1.far (by show o.v ≠ o.g; omega) _, h2⟩

theorem RxAt.putt {w : World} {X : Nat → Prop} {o : Rb} {c : Rx} (h : RxAt w X o c) (z : Int) : RxAt (w.setCell ⟨o.g, 11, none⟩ (.int .i64 z)) X o { c with st := z } := by
  obtain ⟨n1, n2, n3, n4, n5, n6, n7, n8, n9, n10, n11, n12, n13, n14, n15⟩ := h.ne
  have hx : X o.g := h.inX _ (by simp [Rb.F])
  refine ⟨h.good, fun b hb => Nat.lt_of_lt_of_le (h.old b hb) (size_set ..), h.inX, h.ne, ?_, ?_, ?_, ?_, ?_, ?_⟩
  · obtain ⟨fv, h1, h2⟩ := h.chip
    exact ⟨fv, h1.put 11 _, h2.set hx _⟩
  · obtain ⟨cs, h1, h2, h3⟩ := h.pages
    exact ⟨cs, h1.far (by show o.p ≠ o.g; omega) _, h2, fun j hj => (h3 j hj).imp fun v hv => ⟨hv.1, hv.2.set hx _⟩⟩
  · obtain ⟨cs, h1, h2⟩ := h.next
    exact ⟨cs, h1.far (by show o.n ≠ o.g; omega) _, h2⟩
  · obtain ⟨cs, h1, h2⟩ := h.broken
    exact ⟨cs, h1.far (by show o.k ≠ o.g; omega) _, h2⟩
  · obtain ⟨cs, h1, h2⟩ := h.bad
    exact ⟨cs, h1.far (by show o.b ≠ o.g; omega) _, h2⟩
  · obtain ⟨cs, h1, h2⟩ := h.wear
    exact ⟨cs, h1.far (by show o.v ≠ o.g; omega) _, h2⟩

theorem RxAt.putr {w : World} {X : Nat → Prop} {o : Rb} {c : Rx} (h : RxAt w X o c) (z : Int) : RxAt (w.setCell ⟨o.g, 12, none⟩ (.int .i64 z)) X o { c with rd := z } := by
  obtain ⟨n1, n2, n3, n4, n5, n6, n7, n8, n9, n10, n11, n12, n13, n14, n15⟩ := h.ne
  have hx : X o.g := h.inX _ (by simp [Rb.F])
  refine ⟨h.good, fun b hb => Nat.lt_of_lt_of_le (h.old b hb) (size_set ..), h.inX, h.ne, ?_, ?_, ?_, ?_, ?_, ?_⟩
  · obtain ⟨fv, h1, h2⟩ := h.chip
    exact ⟨fv, h1.put 12 _, h2.set hx _⟩
  · obtain ⟨cs, h1, h2, h3⟩ := h.pages
    exact ⟨cs, h1.far (by show o.p ≠ o.g; omega) _, h2, fun j hj => (h3 j hj).imp fun v hv => ⟨hv.1, hv.2.set hx _⟩⟩
  · obtain ⟨cs, h1, h2⟩ := h.next
    exact ⟨cs, h1.far (by show o.n ≠ o.g; omega) _, h2⟩
  · obtain ⟨cs, h1, h2⟩ := h.broken
    exact ⟨cs, h1.far (by show o.k ≠ o.g; omega) _, h2⟩
  · obtain ⟨cs, h1, h2⟩ := h.bad
    exact ⟨cs, h1.far (by show o.b ≠ o.g; omega) _, h2⟩
  · obtain ⟨cs, h1, h2⟩ := h.wear
    exact ⟨cs, h1.far (by show o.v ≠ o.g; omega) _, h2⟩

theorem RxAt.putn {w : World} {X : Nat → Prop} {o : Rb} {c : Rx} (h : RxAt w X o c) {i : Nat} (hi : i < c.nb) (z : Int) : RxAt (w.setCell ⟨o.n, i, none⟩ (.int .i64 z)) X o { c with nx := up1 c.nx i z } := by
  obtain ⟨n1, n2, n3, n4, n5, n6, n7, n8, n9, n10, n11, n12, n13, n14, n15⟩ := h.ne
  have hx : X o.n := h.inX _ (by simp [Rb.F])
  refine ⟨h.good, fun b hb => Nat.lt_of_lt_of_le (h.old b hb) (size_set ..), h.inX, h.ne, ?_, ?_, ?_, ?_, ?_, ?_⟩
  · obtain ⟨fv, h1, h2⟩ := h.chip
    exact ⟨fv, h1.far (by show o.g ≠ o.n; omega) _, h2.set hx _⟩
  · obtain ⟨cs, h1, h2, h3⟩ := h.pages
    exact ⟨cs, h1.far (by show o.p ≠ o.n; omega) _, h2, fun j hj => (h3 j hj).imp fun v hv => ⟨hv.1, hv.2.set hx _⟩⟩
  · obtain ⟨cs, h1, h2⟩ := h.next
    exact ⟨_, h1.put _ _, up1_put (Value.int .i64) h2 hi z⟩
  · obtain ⟨cs, h1, h2⟩ := h.broken
    exact ⟨cs, h1.far (by show o.k ≠ o.n; omega) _, h2⟩
  · obtain ⟨cs, h1, h2⟩ := h.bad
    exact ⟨cs, h1.far (by show o.b ≠ o.n; omega) _, h2⟩
  · obtain ⟨cs, h1, h2⟩ := h.wear
    exact ⟨cs, h1.far (by show o.v ≠ o.n; omega) _, h2⟩

theorem RxAt.putk {w : World} {X : Nat → Prop} {o : Rb} {c : Rx} (h : RxAt w X o c) {i : Nat} (hi : i < c.nb) (z : Bool) : RxAt (w.setCell ⟨o.k, i, none⟩ (.bool z)) X o { c with br := up1 c.br i z } := by
  obtain ⟨n1, n2, n3, n4, n5, n6, n7, n8, n9, n10, n11, n12, n13, n14, n15⟩ := h.ne
  have hx : X o.k := h.inX _ (by simp [Rb.F])
  refine ⟨h.good, fun b hb => Nat.lt_of_lt_of_le (h.old b hb) (size_set ..), h.inX, h.ne, ?_, ?_, ?_, ?_, ?_, ?_⟩
  · obtain ⟨fv, h1, h2⟩ := h.chip
    exact ⟨fv, h1.far (by show o.g ≠ o.k; omega) _, h2.set hx _⟩
  · obtain ⟨cs, h1, h2, h3⟩ := h.pages
    exact ⟨cs, h1.far (by show o.p ≠ o.k; omega) _, h2, fun j hj => (h3 j hj).imp fun v hv => ⟨hv.1, hv.2.set hx _⟩⟩
  · obtain ⟨cs, h1, h2⟩ := h.next
    exact ⟨cs, h1.far (by show o.n ≠ o.k; omega) _, h2⟩
  · obtain ⟨cs, h1, h2⟩ := h.broken
    exact ⟨_, h1.put _ _, up1_put Value.bool h2 hi z⟩
  · obtain ⟨cs, h1, h2⟩ := h.bad
    exact ⟨cs, h1.far (by show o.b ≠ o.k; omega) _, h2⟩
  · obtain ⟨cs, h1, h2⟩ := h.wear
    exact ⟨cs, h1.far (by show o.v ≠ o.k; omega) _, h2⟩

theorem RxAt.putb {w : World} {X : Nat → Prop} {o : Rb} {c : Rx} (h : RxAt w X o c) {i : Nat} (hi : i < c.nb) (z : Bool) : RxAt (w.setCell ⟨o.b, i, none⟩ (.bool z)) X o { c with bad := up1 c.bad i z } := by
  obtain ⟨n1, n2, n3, n4, n5, n6, n7, n8, n9, n10, n11, n12, n13, n14, n15⟩ := h.ne
  have hx : X o.b := h.inX _ (by simp [Rb.F])
  refine ⟨h.good, fun b hb => Nat.lt_of_lt_of_le (h.old b hb) (size_set ..), h.inX, h.ne, ?_, ?_, ?_, ?_, ?_, ?_⟩
  · obtain ⟨fv, h1, h2⟩ := h.chip
    exact ⟨fv, h1.far (by show o.g ≠ o.b; omega) _, h2.set hx _⟩
  · obtain ⟨cs, h1, h2, h3⟩ := h.pages
    exact ⟨cs, h1.far (by show o.p ≠ o.b; omega) _, h2, fun j hj => (h3 j hj).imp fun v hv => ⟨hv.1, hv.2.set hx _⟩⟩
  · obtain ⟨cs, h1, h2⟩ := h.next
    exact ⟨cs, h1.far (by show o.n ≠ o.b; omega) _, h2⟩
  · obtain ⟨cs, h1, h2⟩ := h.broken
    exact ⟨cs, h1.far (by show o.k ≠ o.b; omega) _, h2⟩
  · obtain ⟨cs, h1, h2⟩ := h.bad
    exact ⟨_, h1.put _ _, up1_put Value.bool h2 hi z⟩
  · obtain ⟨cs, h1, h2⟩ := h.wear
    exact ⟨cs, h1.far (by show o.v ≠ o.b; omega) _, h2⟩

theorem RxAt.putv {w : World} {X : Nat → Prop} {o : Rb} {c : Rx} (h : RxAt w X o c) {i : Nat} (hi : i < c.nb) (z : Int) : RxAt (w.setCell ⟨o.v, i, none⟩ (.int .i64 z)) X o { c with wr := up1 c.wr i z } := by
  obtain ⟨n1, n2, n3, n4, n5, n6, n7, n8, n9, n10, n11, n12, n13, n14, n15⟩ := h.ne
  have hx : X o.v := h.inX _ (by simp [Rb.F])
  refine ⟨h.good, fun b hb => Nat.lt_of_lt_of_le (h.old b hb) (size_set ..), h.inX, h.ne, ?_, ?_, ?_, ?_, ?_, ?_⟩
  · obtain ⟨fv, h1, h2⟩ := h.chip
    exact ⟨fv, h1.far (by show o.g ≠ o.v; omega) _, h2.set hx _⟩
  · obtain ⟨cs, h1, h2, h3⟩ := h.pages
    exact ⟨cs, h1.far (by show o.p ≠ o.v; omega) _, h2, fun j hj => (h3 j hj).imp fun v hv => ⟨hv.1, hv.2.set hx _⟩⟩
  · obtain ⟨cs, h1, h2⟩ := h.next
    exact ⟨cs, h1.far (by show o.n ≠ o.v; omega) _, h2⟩
  · obtain ⟨cs, h1, h2⟩ := h.broken
    exact ⟨cs, h1.far (by show o.k ≠ o.v; omega) _, h2⟩
  · obtain ⟨cs, h1, h2⟩ := h.bad
    exact ⟨cs, h1.far (by show o.b ≠ o.v; omega) _, h2⟩
  · obtain ⟨cs, h1, h2⟩ := h.wear
    exact ⟨_, h1.put _ _, up1_put (Value.int .i64) h2 hi z⟩

theorem RxAt.putp {w : World} {X : Nat → Prop} {o : Rb} {c : Rx} (h : RxAt w X o c) {i : Nat} (hi : i < c.nb * c.np) {u : Value} {l : List Int} (hu : PgX w X u l) : RxAt (w.setCell ⟨o.p, i, none⟩ (u)) X o { c with pg := up1 c.pg i l } := by
  obtain ⟨n1, n2, n3, n4, n5, n6, n7, n8, n9, n10, n11, n12, n13, n14, n15⟩ := h.ne
  have hx : X o.p := h.inX _ (by simp [Rb.F])
  refine ⟨h.good, fun b hb => Nat.lt_of_lt_of_le (h.old b hb) (size_set ..), h.inX, h.ne, ?_, ?_, ?_, ?_, ?_, ?_⟩
  · obtain ⟨fv, h1, h2⟩ := h.chip
    exact ⟨fv, h1.far (by show o.g ≠ o.p; omega) _, h2.set hx _⟩
  · obtain ⟨cs, h1, h2, h3⟩ := h.pages
    have h4 := up1_putP (PgX (w.setCell ⟨o.p, i, none⟩ (u)) X) ⟨h2, fun j hj => (h3 j hj).imp fun v hv => ⟨hv.1, hv.2.set hx _⟩⟩ hi (u) l (hu.set hx _)
    exact ⟨_, h1.put _ _, h4⟩
  · obtain ⟨cs, h1, h2⟩ := h.next
    exact ⟨cs, h1.far (by show o.n ≠ o.p; omega) _, h2⟩
  · obtain ⟨cs, h1, h2⟩ := h.broken
    exact ⟨cs, h1.far (by show o.k ≠ o.p; omega) _, h2⟩
  · obtain ⟨cs, h1, h2⟩ := h.bad
    exact ⟨cs, h1.far (by show o.b ≠ o.p; omega) _, h2⟩
  · obtain ⟨cs, h1, h2⟩ := h.wear
    exact ⟨cs, h1.far (by show o.v ≠ o.p; omega) _, h2⟩


/-- the cells that calls read -/
theorem RxAt.gcells {w : World} {X : Nat → Prop} {o : Rb} {c : Rx} (h : RxAt w X o c) : w.cell? ⟨o.g, 9, none⟩ = some (.int .i64 c.si) ∧ w.cell? ⟨o.g, 10, none⟩ = some (.bool c.dn) ∧ w.cell? ⟨o.g, 11, none⟩ = some (.int .i64 c.st) ∧ w.cell? ⟨o.g, 12, none⟩ = some (.int .i64 c.rd) := by
  obtain ⟨fv, h1, -⟩ := h.chip
  exact ⟨h1.cell 9, h1.cell 10, h1.cell 11, h1.cell 12⟩
theorem RxAt.row {w : World} {X : Nat → Prop} {o : Rb} {c : Rx} (h : RxAt w X o c) {k : Nat} (hk : k < c.nb) :
    w.cell? ⟨o.n, k, none⟩ = some (.int .i64 (c.nx k)) ∧ w.cell? ⟨o.k, k, none⟩ = some (.bool (c.br k)) ∧ w.cell? ⟨o.b, k, none⟩ = some (.bool (c.bad k)) ∧ w.cell? ⟨o.v, k, none⟩ = some (.int .i64 (c.wr k)) := by
  obtain ⟨c1, h1, -, g1⟩ := h.next
  obtain ⟨c2, h2, -, g2⟩ := h.broken
  obtain ⟨c3, h3, -, g3⟩ := h.bad
  obtain ⟨c4, h4, -, g4⟩ := h.wear
  exact ⟨(h1.cell k).trans (g1 k hk), (h2.cell k).trans (g2 k hk), (h3.cell k).trans (g3 k hk), (h4.cell k).trans (g4 k hk)⟩
theorem RxAt.page {w : World} {X : Nat → Prop} {o : Rb} {c : Rx} (h : RxAt w X o c) {i : Nat} (hi : i < c.nb * c.np) : ∃ A k, w.cell? ⟨o.p, i, none⟩ = some (.slice A (c.pg i).length k) ∧ (c.pg i).length ≤ k ∧ RwX w X A (c.pg i) := by
  obtain ⟨cs, h1, -, h2⟩ := h.pages
  obtain ⟨v, g1, A, k, rfl, g2, g3⟩ := h2 i hi
  exact ⟨A, k, (h1.cell i).trans g1, g2, g3⟩
/-- all pages as a row -/
def rxp (c : Rx) : List (List Int) := (List.range (c.nb * c.np)).map c.pg
theorem rxp_len (c : Rx) : (rxp c).length = c.nb * c.np := by simp [rxp]
theorem RxAt.rl {w : World} {X : Nat → Prop} {o : Rb} {c : Rx} (h : RxAt w X o c) : Rl w (some ⟨o.p, 0, none⟩) (rxp c) := by
  refine .inr ⟨o.p, 0, rfl, fun i hi => ?_⟩
  rw [rxp_len] at hi
  obtain ⟨A, k, h1, h2, h3⟩ := h.page hi
  have e : (rxp c)[i]! = c.pg i := by rw [getElem!_pos _ _ (by rw [rxp_len]; exact hi)]; simp [rxp]
  rw [e, Nat.zero_add]
  exact ⟨A, k, h1, h2, h3.1⟩

end Go.Proofs.Ytiaaeiefgnoiaaa
