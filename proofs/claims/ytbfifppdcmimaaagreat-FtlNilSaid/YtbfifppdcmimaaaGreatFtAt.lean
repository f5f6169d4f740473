/-
  A translation in memory, with its chip and its blocks in hand. Nothing of one statement alone stands here.
-/
import Derived.Test.YtbfifppdcmimaaaGreatFtThere
import Derived.Test.YtbfifppdcmimaaaGreatFtRange
import Derived.Test.YtbfifppdcmimaaaGreatKO
namespace Go.Proofs.YtbfifppdcmimaaaGreat
open Go.RowKit Crcm Gcm Go.ChangeShapes

theorem Blk.ne {w : World} {g g' : Nat} {t t' : TypeId} {cs cs' : Array Value} (h : Blk w g t cs) (h' : Blk w g' t' cs') (ht : t ≠ t') : g ≠ g' := by
  rintro rfl
  unfold Blk at h h'
  rw [h] at h'
  injection h' with h'
  injection h' with _ e
  exact ht e
theorem MpAt.ne {w : World} {g b n : Nat} {t : TypeId} {cs : Array Value} {m : Int → Option Value} (h' : MpAt w b m n) (h : Blk w g t cs) : b ≠ g := by
  rintro rfl
  obtain ⟨es, clock, h1, -⟩ := h'.es
  unfold Blk at h
  rw [h] at h1
  cases h1

/-- where a translation's parts lie -/
structure Fa where
  F : Nat
  M : Nat
  x1 : Nat
  x2 : Nat
  x3 : Nat
  x4 : Nat
  x5 : Nat
/-- what a translation is -/
structure Fv where
  res : Int
  bad : Int
  cap : Int
  ap : Bool
  st : Bool
  ta : Option Addr
  tc : Nat
  tx : List Int
  se : Int → Option (Int × Int)
  wr : Int → Option (Int × Int)
  d : Int → Bool
  n1 : Nat
  n2 : Nat
  n3 : Nat
  seq : Int
  ep : Int
  lt : Nat → Bool
  bg : Bool
  bk : Int
/-- the blocks that are a translation's own, besides the chip's -/
def FO (a : Fa) (g b : Nat) : Prop := b = a.F ∨ b = a.M ∨ b = g ∨ b = a.x1 ∨ b = a.x2 ∨ b = a.x3 ∨ b = a.x4 ∨ b = a.x5
/-- what stands at its own block -/
def ftV (o : Own) (nb : Nat) (a : Fa) (v : Fv) : Array Value :=
  ftC o (.pointer (some ⟨a.M, 0, none⟩)) v.res v.bad v.cap v.ap v.st (.slice v.ta v.tx.length v.tc) a.x1 a.x2 a.x3 v.seq v.ep a.x4 a.x5 nb (.slice none 0 0) v.bg v.bk
/-- a translation in memory; no block of it has failed -/
structure FtAt (w : World) (X : Nat → Prop) (o : Own) (c : Ch) (m : Mg) (a : Fa) (v : Fv) : Prop where
  ch : ChAt w X o c
  mg : MgAt w a.M m
  cp : m.cp = o.p
  ml : m.l.length = c.nb
  ft : Blk w a.F 58 (ftV o c.nb a v)
  tr : RwX w X v.ta v.tx
  m1 : MpAt w a.x1 (plM v.se) v.n1
  m2 : MpAt w a.x2 (plM v.wr) v.n2
  m3 : MpAt w a.x3 (drM v.d) v.n3
  b4 : ∃ c4, Blk w a.x4 4 c4 ∧ ∀ j, j < c.nb → c4[j]? = some (.bool (v.lt j))
  b5 : ∃ c5, Blk w a.x5 87 c5
  n12 : a.x1 ≠ a.x2
  n13 : a.x1 ≠ a.x3
  n23 : a.x2 ≠ a.x3
  inX : ∀ b, FO a m.g b → X b

/-- a block is none of a chip's -/
theorem ChAt.noF {w : World} {X : Nat → Prop} {o : Own} {c : Ch} (h : ChAt w X o c) {g : Nat} {t : TypeId} {cs : Array Value} (hb : Blk w g t cs) (h1 : t ≠ 96) (h2 : t ≠ 99) (h3 : t ≠ 23) : ¬ o.F c.nb g := by
  rintro (rfl | rfl | ⟨k, hk, rfl⟩)
  · obtain ⟨fv, q, -⟩ := h.chip
    exact hb.ne q h1 rfl
  · obtain ⟨fv, q, -⟩ := h.blocks
    exact hb.ne q h2 rfl
  · obtain ⟨fv, q, -⟩ := h.pages k hk
    exact hb.ne q h3 rfl
theorem ChAt.noM {w : World} {X : Nat → Prop} {o : Own} {c : Ch} (h : ChAt w X o c) {b n : Nat} {m : Int → Option Value} (hb : MpAt w b m n) : ¬ o.F c.nb b := by
  rintro (rfl | rfl | ⟨k, hk, rfl⟩)
  · obtain ⟨fv, q, -⟩ := h.chip
    exact hb.ne q rfl
  · obtain ⟨fv, q, -⟩ := h.blocks
    exact hb.ne q rfl
  · obtain ⟨fv, q, -⟩ := h.pages k hk
    exact hb.ne q rfl

variable {w w' : World} {X : Nat → Prop} {o : Own} {c : Ch} {m : Mg} {a : Fa} {v : Fv}
/-- what turns none of its blocks leaves it -/
theorem FtAt.kp {G : Nat → Prop} (h : FtAt w X o c m a v) (hk : Kp G w w') (hX : ∀ b, G b → X b) (hd : ∀ b, o.F c.nb b ∨ FO a m.g b → ¬ G b) : FtAt w' X o c m a v := by
  obtain ⟨c4, b4, b4'⟩ := h.b4
  obtain ⟨c5, b5⟩ := h.b5
  exact ⟨h.ch.kp hk hX (fun b hb => hd b (.inl hb)), h.mg.kp hk (hd _ (.inr (.inr (.inl rfl)))) (hd _ (.inr (.inr (.inr (.inl rfl))))), h.cp, h.ml, h.ft.kp hk (hd _ (.inr (.inl rfl))), h.tr.kp hk hX,
    h.m1.kp hk (hd _ (.inr (.inr (.inr (.inr (.inl rfl)))))), h.m2.kp hk (hd _ (.inr (.inr (.inr (.inr (.inr (.inl rfl))))))), h.m3.kp hk (hd _ (.inr (.inr (.inr (.inr (.inr (.inr (.inl rfl)))))))),
    ⟨c4, b4.kp hk (hd _ (.inr (.inr (.inr (.inr (.inr (.inr (.inr (.inl rfl))))))))), b4'⟩, ⟨c5, b5.kp hk (hd _ (.inr (.inr (.inr (.inr (.inr (.inr (.inr (.inr rfl)))))))))⟩, h.n12, h.n13, h.n23, h.inX⟩
theorem FtAt.below (h : FtAt w X o c m a v) (hb : Below w.heap.size w w') : FtAt w' X o c m a v :=
  h.kp (G := fun _ => False) (Kp.of_below hb) (fun _ g => g.elim) (fun _ _ g => g)
theorem FtAt.widen {X' : Nat → Prop} (h : FtAt w X o c m a v) (hb : Below w.heap.size w w') (hX : ∀ b, X' b → X b ∨ w.heap.size ≤ b) (hO : ∀ b, X' b → b < w'.heap.size) (hI : ∀ b, X b → X' b) : FtAt w' X' o c m a v := by
  have q := h.below hb
  exact ⟨h.ch.widen hb hX hO hI, q.mg, q.cp, q.ml, q.ft, h.tr.widen hb hX, q.m1, q.m2, q.m3, q.b4, q.b5, q.n12, q.n13, q.n23, fun b hb => hI _ (q.inX b hb)⟩
theorem FtAt.narrow {X' : Nat → Prop} (h : FtAt w X' o c m a v) (hI : ∀ b, X b → X' b) (hF : ∀ b, o.F c.nb b ∨ FO a m.g b → X b) : FtAt w X o c m a v :=
  ⟨h.ch.narrow hI (fun b hb => hF b (.inl hb)), h.mg, h.cp, h.ml, h.ft, h.tr.narrow hI, h.m1, h.m2, h.m3, h.b4, h.b5, h.n12, h.n13, h.n23, fun b hb => hF b (.inr hb)⟩
theorem FtAt.lt (h : FtAt w X o c m a v) : ∀ b, o.F c.nb b ∨ FO a m.g b → b < w.heap.size := fun b hb => hb.elim (fun q => h.ch.old b (h.ch.inX b q)) (fun q => h.ch.old b (h.inX b q))

/-- its own blocks are none of the chip's, and differ -/
structure FtNe (o : Own) (nb : Nat) (g : Nat) (a : Fa) : Prop where
  oF : ¬ o.F nb a.F
  oM : ¬ o.F nb a.M
  og : ¬ o.F nb g
  o1 : ¬ o.F nb a.x1
  o2 : ¬ o.F nb a.x2
  o3 : ¬ o.F nb a.x3
  o4 : ¬ o.F nb a.x4
  o5 : ¬ o.F nb a.x5
  FM : a.F ≠ a.M
  Fg : a.F ≠ g
  F1 : a.F ≠ a.x1
  F2 : a.F ≠ a.x2
  F3 : a.F ≠ a.x3
  F4 : a.F ≠ a.x4
  F5 : a.F ≠ a.x5
  Mg : a.M ≠ g
  M1 : a.M ≠ a.x1
  M2 : a.M ≠ a.x2
  M3 : a.M ≠ a.x3
  M4 : a.M ≠ a.x4
  M5 : a.M ≠ a.x5
  g1 : g ≠ a.x1
  g2 : g ≠ a.x2
  g3 : g ≠ a.x3
  g4 : g ≠ a.x4
  g5 : g ≠ a.x5
  n12 : a.x1 ≠ a.x2
  n13 : a.x1 ≠ a.x3
  n14 : a.x1 ≠ a.x4
  n15 : a.x1 ≠ a.x5
  n23 : a.x2 ≠ a.x3
  n24 : a.x2 ≠ a.x4
  n25 : a.x2 ≠ a.x5
  n34 : a.x3 ≠ a.x4
  n35 : a.x3 ≠ a.x5
  n45 : a.x4 ≠ a.x5
theorem FtAt.ne (h : FtAt w X o c m a v) : FtNe o c.nb m.g a := by
  obtain ⟨c4, b4, -⟩ := h.b4
  obtain ⟨c5, b5⟩ := h.b5
  obtain ⟨cg, bg, -⟩ := h.mg.own
  have bM := h.mg.blk
  exact ⟨h.ch.noF h.ft (by decide) (by decide) (by decide), h.ch.noF bM (by decide) (by decide) (by decide), h.ch.noF bg (by decide) (by decide) (by decide), h.ch.noM h.m1, h.ch.noM h.m2, h.ch.noM h.m3, h.ch.noF b4 (by decide) (by decide) (by decide), h.ch.noF b5 (by decide) (by decide) (by decide),
    h.ft.ne bM (by decide), h.ft.ne bg (by decide), (h.m1.ne h.ft).symm, (h.m2.ne h.ft).symm, (h.m3.ne h.ft).symm, h.ft.ne b4 (by decide), h.ft.ne b5 (by decide),
    bM.ne bg (by decide), (h.m1.ne bM).symm, (h.m2.ne bM).symm, (h.m3.ne bM).symm, bM.ne b4 (by decide), bM.ne b5 (by decide),
    (h.m1.ne bg).symm, (h.m2.ne bg).symm, (h.m3.ne bg).symm, bg.ne b4 (by decide), bg.ne b5 (by decide),
    h.n12, h.n13, h.m1.ne b4, h.m1.ne b5, h.n23, h.m2.ne b4, h.m2.ne b5, h.m3.ne b4, h.m3.ne b5, b4.ne b5 (by decide)⟩

/-- a number of its own is turned -/
theorem FtAt.nums (h : FtAt w X o c m a v) (hk : Kp (fun b => b = a.F) w w') {s e : Int} (hft : Blk w' a.F 58 (ftV o c.nb a { v with seq := s, ep := e })) : FtAt w' X o c m a { v with seq := s, ep := e } := by
  have q := h.ne
  obtain ⟨c4, b4, b4'⟩ := h.b4
  obtain ⟨c5, b5⟩ := h.b5
  have hX : ∀ b, b = a.F → X b := fun b hb => h.inX b (.inl hb)
  exact ⟨h.ch.kp hk hX (fun b hb e => q.oF (e ▸ hb)), h.mg.kp hk q.FM.symm q.Fg.symm, h.cp, h.ml, hft, h.tr.kp hk hX, h.m1.kp hk q.F1.symm, h.m2.kp hk q.F2.symm, h.m3.kp hk q.F3.symm, ⟨c4, b4.kp hk q.F4.symm, b4'⟩, ⟨c5, b5.kp hk q.F5.symm⟩, h.n12, h.n13, h.n23, h.inX⟩
/-- its text is turned -/
theorem FtAt.text (h : FtAt w X o c m a v) (hk : Kp (fun b => b = a.F) w w') {ta : Option Addr} {tc : Nat} {tx : List Int} (hft : Blk w' a.F 58 (ftV o c.nb a { v with ta := ta, tc := tc, tx := tx })) (ht : RwX w' X ta tx) : FtAt w' X o c m a { v with ta := ta, tc := tc, tx := tx } := by
  have q := h.ne
  obtain ⟨c4, b4, b4'⟩ := h.b4
  obtain ⟨c5, b5⟩ := h.b5
  have hX : ∀ b, b = a.F → X b := fun b hb => h.inX b (.inl hb)
  exact ⟨h.ch.kp hk hX (fun b hb e => q.oF (e ▸ hb)), h.mg.kp hk q.FM.symm q.Fg.symm, h.cp, h.ml, hft, ht, h.m1.kp hk q.F1.symm, h.m2.kp hk q.F2.symm, h.m3.kp hk q.F3.symm, ⟨c4, b4.kp hk q.F4.symm, b4'⟩, ⟨c5, b5.kp hk q.F5.symm⟩, h.n12, h.n13, h.n23, h.inX⟩
/-- the map of what is sealed is turned -/
theorem FtAt.map1 (h : FtAt w X o c m a v) (hk : Kp (fun b => b = a.x1) w w') {se : Int → Option (Int × Int)} {n1 : Nat} (hm : MpAt w' a.x1 (plM se) n1) : FtAt w' X o c m a { v with se := se, n1 := n1 } := by
  have q := h.ne
  obtain ⟨c4, b4, b4'⟩ := h.b4
  obtain ⟨c5, b5⟩ := h.b5
  have hX : ∀ b, b = a.x1 → X b := fun b hb => h.inX b (.inr (.inr (.inr (.inl hb))))
  exact ⟨h.ch.kp hk hX (fun b hb e => q.o1 (e ▸ hb)), h.mg.kp hk q.M1 q.g1, h.cp, h.ml, h.ft.kp hk q.F1, h.tr.kp hk hX, hm, h.m2.kp hk q.n12.symm, h.m3.kp hk q.n13.symm, ⟨c4, b4.kp hk q.n14.symm, b4'⟩, ⟨c5, b5.kp hk q.n15.symm⟩, h.n12, h.n13, h.n23, h.inX⟩
/-- the map of what is written is turned -/
theorem FtAt.map2 (h : FtAt w X o c m a v) (hk : Kp (fun b => b = a.x2) w w') {wr : Int → Option (Int × Int)} {n2 : Nat} (hm : MpAt w' a.x2 (plM wr) n2) : FtAt w' X o c m a { v with wr := wr, n2 := n2 } := by
  have q := h.ne
  obtain ⟨c4, b4, b4'⟩ := h.b4
  obtain ⟨c5, b5⟩ := h.b5
  have hX : ∀ b, b = a.x2 → X b := fun b hb => h.inX b (.inr (.inr (.inr (.inr (.inl hb)))))
  exact ⟨h.ch.kp hk hX (fun b hb e => q.o2 (e ▸ hb)), h.mg.kp hk q.M2 q.g2, h.cp, h.ml, h.ft.kp hk q.F2, h.tr.kp hk hX, h.m1.kp hk q.n12, hm, h.m3.kp hk q.n23.symm, ⟨c4, b4.kp hk q.n24.symm, b4'⟩, ⟨c5, b5.kp hk q.n25.symm⟩, h.n12, h.n13, h.n23, h.inX⟩
/-- the set of what is dropped is turned -/
theorem FtAt.map3 (h : FtAt w X o c m a v) (hk : Kp (fun b => b = a.x3) w w') {d : Int → Bool} {n3 : Nat} (hm : MpAt w' a.x3 (drM d) n3) : FtAt w' X o c m a { v with d := d, n3 := n3 } := by
  have q := h.ne
  obtain ⟨c4, b4, b4'⟩ := h.b4
  obtain ⟨c5, b5⟩ := h.b5
  have hX : ∀ b, b = a.x3 → X b := fun b hb => h.inX b (.inr (.inr (.inr (.inr (.inr (.inl hb))))))
  exact ⟨h.ch.kp hk hX (fun b hb e => q.o3 (e ▸ hb)), h.mg.kp hk q.M3 q.g3, h.cp, h.ml, h.ft.kp hk q.F3, h.tr.kp hk hX, h.m1.kp hk q.n13, h.m2.kp hk q.n23, hm, ⟨c4, b4.kp hk q.n34.symm, b4'⟩, ⟨c5, b5.kp hk q.n35.symm⟩, h.n12, h.n13, h.n23, h.inX⟩
/-- its manager and its chip are turned -/
theorem FtAt.prg (h : FtAt w X o c m a v) {c2 : Ch} {l2 : List Bk} (hk : Kp (Fm o c.nb m.g) w w') (hc : ChAt w' X o c2) (hm : MgAt w' a.M { m with l := l2 }) (hn : c2.nb = c.nb) (hl : l2.length = m.l.length) : FtAt w' X o c2 { m with l := l2 } a v := by
  have q := h.ne
  obtain ⟨c4, b4, b4'⟩ := h.b4
  obtain ⟨c5, b5⟩ := h.b5
  have hX : ∀ b, Fm o c.nb m.g b → X b := fun b hb => hb.elim (h.ch.inX b) (fun e => h.inX b (.inr (.inr (.inl e))))
  refine ⟨hc, hm, h.cp, by rw [hn]; exact hl.trans h.ml, by rw [hn]; exact h.ft.kp hk (fun e => e.elim q.oF q.Fg), h.tr.kp hk hX, h.m1.kp hk (fun e => e.elim q.o1 q.g1.symm), h.m2.kp hk (fun e => e.elim q.o2 q.g2.symm), h.m3.kp hk (fun e => e.elim q.o3 q.g3.symm),
    ⟨c4, b4.kp hk (fun e => e.elim q.o4 q.g4.symm), by rw [hn]; exact b4'⟩, ⟨c5, b5.kp hk (fun e => e.elim q.o5 q.g5.symm)⟩, h.n12, h.n13, h.n23, h.inX⟩
end Go.Proofs.YtbfifppdcmimaaaGreat
