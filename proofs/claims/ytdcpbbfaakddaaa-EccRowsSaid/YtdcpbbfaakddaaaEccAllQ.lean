/-
  A row of blocks mended: what lies where while the program goes through the blocks.
-/
import Derived.Test.YtdcpbbfaakddaaaEccAllP
namespace Go.Proofs.Ytdcpbbfaakddaaa
open Go.RowKit Go.Shelf Crcm Tagm Eccm Go.ChangeShapes

theorem blk_ownS {β : Type} (B p : Nat) (t : TypeId) (f : β → Array Value) : OwnFrom B (fun s W => Blk W p t (f s)) := fun s W W' row hs hg hr => by
  have hlt := Blk.lt hs
  refine (hg.block p hlt (fun e => ?_)).trans hs
  obtain ⟨_, o, ho, hn⟩ := hr p (by first | exact e | exact e.symm)
  unfold Blk at hs
  rw [hs] at ho
  cases ho
  simp [Obj.isCells] at hn
theorem row_ownS {β : Type} (B base n : Nat) (e : TypeId) (P : Prop) (v : Value) (f : β → List Value) : OwnFrom B (fun s W => P ∨ W.ownsRow base e 1 v n (f s)) := fun s W W' row hs hg hr => by
  rcases hs with hs | hs
  · exact .inl hs
  · refine .inr (hs.kept hg ?_)
    rcases hs.2 with ⟨rfl, _⟩ | ⟨g, cap, cur, rfl, _, hgb, _⟩
    · exact .inl rfl
    · refine .inr fun e' => ?_
      obtain ⟨_, o, ho, hc⟩ := hr g (by simpa [Value.ownBlock] using e'.symm)
      rw [hgb] at ho; cases ho; cases hc
theorem box_ownS {β : Type} (B p : Nat) (t : TypeId) (v : β → Option Addr → Value) (Q : β → Option Addr → Prop) : OwnFrom B (fun s W => ∃ A, Boxed W p t (v s A) ∧ Q s A) := fun s W W' row hs hg hr => by
  obtain ⟨A, hb, hq⟩ := hs
  refine ⟨A, hb.kept hg (fun e' => ?_), hq⟩
  obtain ⟨_, o, ho, hc⟩ := hr p e'.symm
  rw [show W.heap[p]? = _ from hb] at ho; cases ho; cases hc

/-- what lies where: the row g, the box S of the codes, the counts T -/
structure Al (w : World) (S T g L cc : Nat) (X : List Int) (A : Option Addr) (lz cz : Nat) (k0 k1 k2 k3 : Nat) (W : World) : Prop where
  row : W.ownsRow (S + 2) 5 1 (.slice (some ⟨g, 0, none⟩) L cc) L (X.map (Value.int .u8))
  box : Boxed W S 22 (.slice A lz cz)
  cnt : Blk W T 68 #[.int .i64 k0, .int .i64 k1, .int .i64 k2, .int .i64 k3]
  res : Blk W (S + 1) 36 #[.int .i64 0, .int .i64 0, .int .i64 0, .int .i64 0]
  siz : T + 3 ≤ W.heap.size
  bel : Below S w W
  glo : S + 2 ≤ g
  ghi : g < T
/-- nothing of a walk has turned, and the iterator's boxes lie as they lay -/
structure Mvd (T : Nat) (W W' : World) : Prop where
  oth : KeepsOthers W W'
  two : K2 (T + 1) (T + 2) W W'
section
variable {w : World} {S T g L cc lz cz k0 k1 k2 k3 : Nat} {X : List Int} {A : Option Addr} {W W' W0 : World}
theorem Al.row_lt (h : Al w S T g L cc X A lz cz k0 k1 k2 k3 W) : g < W.heap.size := by have := h.siz; have := h.ghi; omega
theorem Al.below (h : Al w S T g L cc X A lz cz k0 k1 k2 k3 W) (hb : Below W.heap.size W W') : Al w S T g L cc X A lz cz k0 k1 k2 k3 W' :=
  ⟨own_below h.row hb, (hb.block _ (by have := h.siz; have := h.glo; have := h.ghi; omega)).trans h.box, h.cnt.below hb (by have := h.siz; omega), h.res.below hb (by have := h.siz; have := h.glo; have := h.ghi; omega), Nat.le_trans h.siz hb.size, h.bel.trans (hb.mono (by have := h.siz; have := h.glo; have := h.ghi; omega)), h.glo, h.ghi⟩
theorem Mvd.refl (T : Nat) (W : World) : Mvd T W W := ⟨KeepsOthers.refl W, rfl, rfl⟩
theorem Mvd.below (h : Mvd T W0 W) (hs : T + 3 ≤ W.heap.size) (hb : Below W.heap.size W W') : Mvd T W0 W' :=
  ⟨h.oth.trans ⟨hb.size, fun k o hk _ => (hb.block k (Array.getElem?_eq_some_iff.1 hk).1).trans hk⟩, (hb.block _ (by omega)).trans h.two.1, (hb.block _ (by omega)).trans h.two.2⟩
theorem Mvd.set (h : Mvd T W0 W) {p : Addr} (h1 : T + 1 ≠ p.block) (h2 : T + 2 ≠ p.block) (u : Value) : Mvd T W0 (W.setCell p u) :=
  ⟨h.oth.trans (KeepsOthers.setCell W p u), (Below.heap_setCell W p u _ h1).trans h.two.1, (Below.heap_setCell W p u _ h2).trans h.two.2⟩
theorem Mvd.drew (h : Mvd T W0 W) : Mvd T W0 W.drew := ⟨⟨h.oth.size, h.oth.same⟩, h.two⟩
theorem Al.codes (h : Al w S T g L cc X A lz cz k0 k1 k2 k3 W) (A' : Option Addr) (lz' cz' : Nat) : Al w S T g L cc X A' lz' cz' k0 k1 k2 k3 (W.setCell ⟨S, 0, none⟩ (.slice A' lz' cz')) :=
  ⟨own_keep h.row (by have := h.glo; omega) _, h.box.set _, h.cnt.far (by show T ≠ S; have := h.glo; have := h.ghi; omega) _, h.res.far (by show S + 1 ≠ S; omega) _, by have := h.siz; simpa [World.setCell] using this, h.bel.setCell (p := ⟨S, 0, none⟩) (Nat.le_refl _) _, h.glo, h.ghi⟩
theorem Al.turned (h : Al w S T g L cc X A lz cz k0 k1 k2 k3 W) {o : Nat} {u : Value} {X' : List Int} (hr : ((W.setCell ⟨g, o, none⟩ u).drew).ownsRow (S + 2) 5 1 (.slice (some ⟨g, 0, none⟩) L cc) L (X'.map (Value.int .u8))) : Al w S T g L cc X' A lz cz k0 k1 k2 k3 (W.setCell ⟨g, o, none⟩ u).drew :=
  ⟨hr, boxed_other h.box (by have := h.glo; omega) _, h.cnt.far (by show T ≠ g; have := h.ghi; omega) _, h.res.far (by show S + 1 ≠ g; have := h.glo; omega) _, by have := h.siz; simpa [World.setCell] using this, (h.bel.setCell (p := ⟨g, o, none⟩) (by show S ≤ g; have := h.glo; omega) _).drew, h.glo, h.ghi⟩
theorem Al.more (h : Al w S T g L cc X A lz cz k0 k1 k2 k3 W) (i : Nat) {j0 j1 j2 j3 : Nat} (v : Int) (hv : #[Value.int .i64 (k0 : Int), .int .i64 k1, .int .i64 k2, .int .i64 k3].setIfInBounds i (.int .i64 v) = #[.int .i64 j0, .int .i64 j1, .int .i64 j2, .int .i64 j3]) : Al w S T g L cc X A lz cz j0 j1 j2 j3 (W.setCell ⟨T, i, none⟩ (.int .i64 v)) :=
  ⟨own_keep h.row (by have := h.ghi; omega) _, boxed_other h.box (by have := h.glo; have := h.ghi; omega) _, hv ▸ h.cnt.put i _, h.res.far (by show S + 1 ≠ T; have := h.glo; have := h.ghi; omega) _, by have := h.siz; simpa [World.setCell] using this, h.bel.setCell (p := ⟨T, i, none⟩) (by show S ≤ T; have := h.glo; have := h.ghi; omega) _, h.glo, h.ghi⟩
end
/-- a byte put above others -/
theorem or_low32 (x b : Int) (i : Nat) (hx : 0 ≤ x ∧ x < 256 ^ i) (hb : U8 b) (hi : i < 4) : bits .or .u32 x (b * 2 ^ (8 * i) % 4294967296) = x + 256 ^ i * b := by
  obtain ⟨h0, h1⟩ := hb
  obtain ⟨B, rfl⟩ : ∃ B : Nat, b = B := ⟨b.toNat, by omega⟩
  obtain ⟨Y, rfl⟩ : ∃ Y : Nat, x = Y := ⟨x.toNat, by omega⟩
  have hY : Y < 2 ^ (8 * i) := by
    have := hx.2
    rw [Nat.pow_mul]
    have e : (256 : Int) ^ i = (((2 ^ 8) ^ i : Nat) : Int) := by simp
    rw [e] at this; omega
  have hle : 2 ^ (8 * i) ≤ 16777216 := by
    have : 2 ^ (8 * i) ≤ 2 ^ 24 := Nat.pow_le_pow_right (by decide) (by omega)
    simpa using this
  have hBm : B * 2 ^ (8 * i) < 4294967296 := by
    have : B * 2 ^ (8 * i) ≤ 255 * 16777216 := Nat.mul_le_mul (by omega) hle
    omega
  have e1 : ((B : Int) * 2 ^ (8 * i) % 4294967296) = ((2 ^ (8 * i) * B : Nat) : Int) := by
    rw [show ((B : Int) * 2 ^ (8 * i)) = ((B * 2 ^ (8 * i) : Nat) : Int) by simp, Nat.mul_comm (2 ^ (8 * i)) B]
    omega
  have e2 := Nat.two_pow_add_eq_or_of_lt hY B
  have hBm2 : 2 ^ (8 * i) * B < 4294967296 := by rw [Nat.mul_comm]; exact hBm
  rw [e1, u32_or_nat _ _ (by omega) hBm2, Nat.or_comm, ← e2]
  have e3 : (256 : Int) ^ i = ((2 ^ (8 * i) : Nat) : Int) := by rw [Nat.pow_mul]; simp
  rw [e3]
  push_cast
  omega
end Go.Proofs.Ytdcpbbfaakddaaa
