/-
  A chip told whole: the program's call Dump. Nothing of one statement alone stands here.
-/
import Derived.Test.YtiaaeiefgnoiaaaNandCopied
import Derived.OwnWalk
import Derived.Maps.AppendAt
namespace Go.Proofs.Ytiaaeiefgnoiaaa
open Go.RowKit Crcm Go.ChangeShapes

/-- a block's pages as bytes; of one that is erased, none -/
def pgs (c : Ch) (k : Nat) : List (List Int) := (List.range c.np).map fun i => (c.pg k i).getD []
/-- those of the first blocks -/
def allp (c : Ch) : Nat → List (List Int)
  | 0 => []
  | k + 1 => allp c k ++ pgs c k
theorem pgs_len (c : Ch) (k : Nat) : (pgs c k).length = c.np := by simp [pgs]
theorem pgs_at (c : Ch) (k : Nat) {i : Nat} (hi : i < c.np) : (pgs c k)[i]! = (c.pg k i).getD [] := by
  rw [getElem!_pos _ _ (by rw [pgs_len]; exact hi)]
  simp [pgs]
theorem allp_len (c : Ch) (k : Nat) : (allp c k).length = k * c.np := by
  induction k with
  | zero => simp [allp]
  | succ k ih => rw [allp, List.length_append, ih, pgs_len, Nat.succ_mul]
theorem app_left {α : Type} [Inhabited α] {l m : List α} {i : Nat} (h : i < l.length) : (l ++ m)[i]! = l[i]! := by
  rw [getElem!_pos (l ++ m) i (by rw [List.length_append]; omega), getElem!_pos l i h, List.getElem_append_left h]
theorem app_right {α : Type} [Inhabited α] {l m : List α} {i : Nat} (h : l.length ≤ i) (h2 : i < l.length + m.length) : (l ++ m)[i]! = m[i - l.length]! := by
  rw [getElem!_pos (l ++ m) i (by rw [List.length_append]; omega), getElem!_pos m (i - l.length) (by omega), List.getElem_append_right h]

/-- what is read of a chip that is told whole: it may be a copy -/
structure Dc (w : World) (o : Own) (c : Ch) : Prop where
  good : Gd c.nb c.np c.sz
  row : ∃ cp, w.cell? ⟨o.bc, 3, none⟩ = some (.slice (some ⟨o.bb, 0, none⟩) c.nb cp)
  up : w.cell? ⟨o.bc, 4, none⟩ = some (.bool c.up)
  strokes : w.cell? ⟨o.bc, 7, none⟩ = some (.int .i64 c.strokes)
  blk : ∀ k, k < c.nb → w.cell? ⟨o.bb, k * 4, none⟩ = some (.slice (some ⟨o.pb k, 0, none⟩) c.np c.np) ∧ w.cell? ⟨o.bb, k * 4 + 1, none⟩ = some (.bool (c.broken k)) ∧ w.cell? ⟨o.bb, k * 4 + 2, none⟩ = some (.bool (c.bad k)) ∧ w.cell? ⟨o.bb, k * 4 + 3, none⟩ = some (.int .i64 (c.wear k))
  rows : ∀ k, k < c.nb → Rl w (some ⟨o.pb k, 0, none⟩) (pgs c k)
  small : ∀ k, k < c.nb → ∀ l ∈ pgs c k, l.length ≤ 100000
theorem Dc.below {w w' : World} {o : Own} {c : Ch} (h : Dc w o c) (hb : Below w.heap.size w w') : Dc w' o c := by
  have hc : ∀ {p : Addr} {v : Value}, w.cell? p = some v → w'.cell? p = some v := fun {p v} g => (hb.cell (block_lt_of_cell g)).trans g
  obtain ⟨cp, h3⟩ := h.row
  exact ⟨h.good, ⟨cp, hc h3⟩, hc h.up, hc h.strokes, fun k hk => by
    obtain ⟨a, b, d, e⟩ := h.blk k hk
    exact ⟨hc a, hc b, hc d, hc e⟩, fun k hk => (h.rows k hk).below hb, h.small⟩
theorem PgAt.row {w : World} {X : Nat → Prop} {v : Value} {wd : Nat} {p : Option (List Int)} (h : PgAt w X v wd p) : (∃ A c, v = .slice A (p.getD []).length c ∧ (p.getD []).length ≤ c ∧ Rw w A (p.getD [])) ∧ (p.getD []).length ≤ wd := by
  cases p with
  | none => exact ⟨⟨none, 0, h, Nat.le_refl _, Rw.nil⟩, Nat.zero_le _⟩
  | some l =>
    obtain ⟨b, off, c, h1, h2, h3, h4⟩ := h
    exact ⟨⟨_, c, by rw [h1]; simp [h3], by simp; omega, h4.1⟩, by simp; omega⟩
theorem ChAt.dc {w : World} {X : Nat → Prop} {o : Own} {c : Ch} (h : ChAt w X o c) : Dc w o c := by
  obtain ⟨-, -, -, h3, h4, -, h7, -⟩ := h.cell
  refine ⟨h.good, ⟨_, h3⟩, h4, h7, fun k hk => h.bcell hk, fun k hk => .inr ⟨o.pb k, 0, rfl, fun i hi => ?_⟩, fun k hk l hl => ?_⟩
  · rw [pgs_len] at hi
    obtain ⟨v, h1, h2⟩ := h.pcell hk hi
    obtain ⟨⟨A, cc, rfl, hc, hr⟩, -⟩ := h2.row
    rw [pgs_at c k hi, Nat.zero_add]
    exact ⟨A, cc, h1, hc, hr⟩
  · obtain ⟨i, hi, rfl⟩ := List.mem_map.1 hl
    obtain ⟨v, h1, h2⟩ := h.pcell hk (List.mem_range.1 hi)
    have := h2.row.2
    have := h.good
    unfold Gd at this
    omega

/-- a page in memory that lies in no block of X -/
def PgX (w : World) (X : Nat → Prop) (v : Value) (l : List Int) : Prop := ∃ A c, v = .slice A l.length c ∧ l.length ≤ c ∧ RwX w X A l
theorem RwX.step {F X X' : Nat → Prop} {w w' : World} {a : Option Addr} {l : List Int} (h : RwX w X a l) (hk : Kp F w w') (hF : ∀ b, F b → X b ∨ w.heap.size ≤ b) (hX : ∀ b, X' b → X b ∨ w.heap.size ≤ b) : RwX w' X' a l := by
  have h1 : RwX w (fun b => X b ∨ w.heap.size ≤ b) a l := h.widen (Below.refl _ _) (fun b g => g)
  exact (h1.kp hk hF).narrow hX
theorem PgX.step {F X X' : Nat → Prop} {w w' : World} {v : Value} {l : List Int} (h : PgX w X v l) (hk : Kp F w w') (hF : ∀ b, F b → X b ∨ w.heap.size ≤ b) (hX : ∀ b, X' b → X b ∨ w.heap.size ≤ b) : PgX w' X' v l := by
  obtain ⟨A, c, h1, h2, h3⟩ := h
  exact ⟨A, c, h1, h2, h3.step hk hF hX⟩
theorem PgN.pgx {w : World} {B : Nat} {v : Value} {l : List Int} {X : Nat → Prop} (h : PgN w B v l) (hX : ∀ b, X b → b < B) : PgX w X v l := by
  rcases h with ⟨rfl, rfl⟩ | ⟨h1, b, off, c, h2, h3, h4, h5⟩
  · exact ⟨none, 0, rfl, Nat.le_refl _, RwX.nil⟩
  · exact ⟨_, c, h2, h3, h5, fun b' off' s e _ g => by injection e with e; injection e with e1; have := hX _ g; omega⟩
theorem kp_grown {w w' : World} {row : Option Nat} (h : w.grownBy w' row) : Kp (fun b => row = some b) w w' :=
  ⟨h.os, h.tape, h.output, h.size, fun k hk hf => h.block k hk (fun e => hf e.symm)⟩
theorem own_belowD {w w' : World} {base k e sz : Nat} {v : Value} {xs : List Value} (h : w.ownsRow base e sz v k xs) (hb : Below w.heap.size w w') : w'.ownsRow base e sz v k xs :=
  h.kept (row := none) ⟨hb.os, hb.tape, hb.output, hb.size, fun k hk _ => hb.block k hk⟩ (by cases v.ownBlock <;> simp)
theorem own_apart {w : World} {base base2 k k2 sz sz2 : Nat} {e t : TypeId} {v v2 : Value} {xs xs2 : List Value} (h : w.ownsRow base e sz v k xs) (h2 : w.ownsRow base2 t sz2 v2 k2 xs2) (hne : e ≠ t) : v.ownBlock = none ∨ v.ownBlock ≠ v2.ownBlock := by
  rcases h.2 with ⟨h0, _⟩ | ⟨g, cap, cur, h0, _, hg, _⟩
  · left; rw [h0]; rfl
  · right
    rcases h2.2 with ⟨k0, _⟩ | ⟨g', cap', cur', k0, _, hg', _⟩
    · rw [h0, k0]; simp [Value.ownBlock]
    · rw [h0, k0]
      simp only [Value.ownBlock]
      intro q
      simp at q
      subst q
      rw [hg] at hg'
      injection hg' with hg'
      injection hg' with _ h3
      exact hne h3
theorem own_cells {w : World} {base g n cap : Nat} {e : TypeId} {xs : List Value} (h : w.ownsRow base e 1 (.slice (some ⟨g, 0, none⟩) n cap) n xs) {i : Nat} (hi : i < n) : w.cell? ⟨g, i, none⟩ = xs[i]? := h.cellAt i (by omega)

def bads (c : Ch) (k : Nat) : List Value := (List.range k).map fun i => .bool (c.bad i)
def wears (c : Ch) (k : Nat) : List Value := (List.range k).map fun i => .int .i64 (c.wear i)
theorem bads_succ (c : Ch) (k : Nat) : bads c (k + 1) = bads c k ++ [.bool (c.bad k)] := by simp [bads, List.range_succ]
theorem wears_succ (c : Ch) (k : Nat) : wears c (k + 1) = wears c k ++ [.int .i64 (c.wear k)] := by simp [wears, List.range_succ]
/-- the blocks of the three rows -/
def DX (vp vb vw : Value) (b : Nat) : Prop := vp.ownBlock = some b ∨ vb.ownBlock = some b ∨ vw.ownBlock = some b
/-- what is told so far -/
structure DpI (B : Nat) (wr : World) (c : Ch) (k j m : Nat) (vp vb vw : Value) : Prop where
  bs : B ≤ wr.heap.size
  ps : ∃ ps : List Value, wr.ownsRow B 27 1 vp (k * c.np) ps ∧ ∀ i, i < k * c.np → ∃ v, ps[i]? = some v ∧ PgX wr (DX vp vb vw) v (allp c k)[i]!
  b : wr.ownsRow B 4 1 vb j (bads c j)
  w : wr.ownsRow B 3 1 vw m (wears c m)
theorem DpI.lt {B : Nat} {wr : World} {c : Ch} {k j m : Nat} {vp vb vw : Value} (h : DpI B wr c k j m vp vb vw) (b : Nat) (hb : DX vp vb vw b) : B ≤ b ∧ b < wr.heap.size := by
  obtain ⟨ps, h1, -⟩ := h.ps
  rcases hb with e | e | e
  · exact h1.lt _ e
  · exact h.b.lt _ e
  · exact h.w.lt _ e
theorem DpI.below {B : Nat} {wr w' : World} {c : Ch} {k j m : Nat} {vp vb vw : Value} (h : DpI B wr c k j m vp vb vw) (hb : Below wr.heap.size wr w') : DpI B w' c k j m vp vb vw := by
  obtain ⟨ps, h1, h2⟩ := h.ps
  refine ⟨Nat.le_trans h.bs hb.size, ⟨ps, own_belowD h1 hb, fun i hi => ?_⟩, own_belowD h.b hb, own_belowD h.w hb⟩
  obtain ⟨v, g1, g2⟩ := h2 i hi
  exact ⟨v, g1, g2.step (F := fun _ => False) (Kp.of_below hb) (fun _ g => g.elim) (fun _ g => .inl g)⟩
theorem DpI.pushP {B : Nat} {wr w' : World} {c : Ch} {k j m : Nat} {vp vb vw v' : Value} {ps news : List Value} (h : DpI B wr c k j m vp vb vw) (hps : wr.ownsRow B 27 1 vp (k * c.np) ps)
    (hpp : ∀ i, i < k * c.np → ∃ v, ps[i]? = some v ∧ PgX wr (DX vp vb vw) v (allp c k)[i]!) (hn : ∀ i, i < c.np → ∃ v, news[i]? = some v ∧ PgX wr (DX vp vb vw) v (pgs c k)[i]!)
    (h1 : w'.ownsRow B 27 1 v' (k * c.np + c.np) (ps ++ news)) (hg : wr.grownBy w' vp.ownBlock) (hl : v'.ownBlock = vp.ownBlock ∨ v'.ownBlock = some wr.heap.size) : DpI B w' c (k + 1) j m v' vb vw := by
  have hk := kp_grown hg
  have hpl : ps.length = k * c.np := by have := hps.1; omega
  have hX : ∀ b, DX v' vb vw b → DX vp vb vw b ∨ wr.heap.size ≤ b := fun b g => by
    rcases g with g | g | g
    · rcases hl with e | e
      · exact .inl (.inl (e ▸ g))
      · rw [e] at g; injection g with g; exact .inr (by omega)
    · exact .inl (.inr (.inl g))
    · exact .inl (.inr (.inr g))
  refine ⟨Nat.le_trans h.bs hg.size, ⟨ps ++ news, by rw [Nat.succ_mul]; exact h1, fun i hi => ?_⟩, h.b.kept hg (own_apart h.b hps (by decide)), h.w.kept hg (own_apart h.w hps (by decide))⟩
  rw [Nat.succ_mul] at hi
  by_cases hlt : i < k * c.np
  · obtain ⟨v, g1, g2⟩ := hpp i hlt
    refine ⟨v, by rw [List.getElem?_append_left (by omega)]; exact g1, ?_⟩
    rw [allp, app_left (by rw [allp_len]; exact hlt)]
    exact g2.step hk (fun b e => .inl (.inl e)) hX
  · obtain ⟨v, g1, g2⟩ := hn (i - k * c.np) (by omega)
    refine ⟨v, by rw [List.getElem?_append_right (by omega), hpl]; exact g1, ?_⟩
    rw [allp, app_right (by rw [allp_len]; omega) (by rw [allp_len, pgs_len]; omega), allp_len]
    exact g2.step hk (fun b e => .inl (.inl e)) hX
theorem DpI.pushB {B : Nat} {wr w' : World} {c : Ch} {k j m : Nat} {vp vb vw v' : Value} {o : Obj} (h : DpI B wr c k j m vp vb vw)
    (h1 : w'.ownsRow B 4 1 v' (j + 1) (bads c j ++ [.bool (c.bad j)])) (hg : (wr.alloc o).grownBy w' vb.ownBlock) (hl : v'.ownBlock = vb.ownBlock ∨ v'.ownBlock = some (wr.alloc o).heap.size) : DpI B w' c k (j + 1) m vp v' vw := by
  have ha := h.below ((Below.refl _ _).alloc (Nat.le_refl _) o)
  generalize wr.alloc o = w1 at ha hg hl
  have hk := kp_grown hg
  obtain ⟨ps, hps, hpp⟩ := ha.ps
  have hX : ∀ b, DX vp v' vw b → DX vp vb vw b ∨ w1.heap.size ≤ b := fun b g => by
    rcases g with g | g | g
    · exact .inl (.inl g)
    · rcases hl with e | e
      · exact .inl (.inr (.inl (e ▸ g)))
      · rw [e] at g; injection g with g; exact .inr (by omega)
    · exact .inl (.inr (.inr g))
  refine ⟨Nat.le_trans ha.bs hg.size, ⟨ps, hps.kept hg (own_apart hps ha.b (by decide)), fun i hi => ?_⟩, by rw [bads_succ]; exact h1, ha.w.kept hg (own_apart ha.w ha.b (by decide))⟩
  obtain ⟨v, g1, g2⟩ := hpp i hi
  exact ⟨v, g1, g2.step hk (fun b e => .inl (.inr (.inl e))) hX⟩
theorem DpI.pushW {B : Nat} {wr w' : World} {c : Ch} {k j m : Nat} {vp vb vw v' : Value} {o : Obj} (h : DpI B wr c k j m vp vb vw)
    (h1 : w'.ownsRow B 3 1 v' (m + 1) (wears c m ++ [.int .i64 (c.wear m)])) (hg : (wr.alloc o).grownBy w' vw.ownBlock) (hl : v'.ownBlock = vw.ownBlock ∨ v'.ownBlock = some (wr.alloc o).heap.size) : DpI B w' c k j (m + 1) vp vb v' := by
  have ha := h.below ((Below.refl _ _).alloc (Nat.le_refl _) o)
  generalize wr.alloc o = w1 at ha hg hl
  have hk := kp_grown hg
  obtain ⟨ps, hps, hpp⟩ := ha.ps
  have hX : ∀ b, DX vp vb v' b → DX vp vb vw b ∨ w1.heap.size ≤ b := fun b g => by
    rcases g with g | g | g
    · exact .inl (.inl g)
    · exact .inl (.inr (.inl g))
    · rcases hl with e | e
      · exact .inl (.inr (.inr (e ▸ g)))
      · rw [e] at g; injection g with g; exact .inr (by omega)
  refine ⟨Nat.le_trans ha.bs hg.size, ⟨ps, hps.kept hg (own_apart hps ha.w (by decide)), fun i hi => ?_⟩, ha.b.kept hg (own_apart ha.b ha.w (by decide)), by rw [wears_succ]; exact h1⟩
  obtain ⟨v, g1, g2⟩ := hpp i hi
  exact ⟨v, g1, g2.step hk (fun b e => .inl (.inr (.inr e))) hX⟩
theorem own_slice {w : World} {base n : Nat} {e : TypeId} {v : Value} {xs : List Value} (h : w.ownsRow base e 1 v n xs) (hn : 0 < n) : ∃ g cap, v = .slice (some ⟨g, 0, none⟩) n cap := by
  rcases h.2 with ⟨-, h0⟩ | ⟨g, cap, cur, h0, -⟩
  · omega
  · exact ⟨g, cap, h0⟩
theorem Try.infoBoD : (Try.prog.info? 4).map (fun i => (i.zero, i.size, i.bytes)) = some (some (.bool false), 1, 1) := by kernel_rfl
theorem Try.infoInD : (Try.prog.info? 3).map (fun i => (i.zero, i.size, i.bytes)) = some (some (.int .i64 0), 1, 8) := by kernel_rfl

set_option maxRecDepth 100000 in
set_option maxHeartbeats 4000000 in
theorem dump_any {w : World} {o : Own} {c : Ch} (h : Dc w o c) :
    Calls Try.prog 12 #[o.p] w fun e w' => (∃ gp cp gb cb gw cw, e = .returned (.tuple #[.slice (some ⟨gp, 0, none⟩) (c.nb * c.np) cp, .slice (some ⟨gb, 0, none⟩) c.nb cb, .slice (some ⟨gw, 0, none⟩) c.nb cw]) ∧
      Rl w' (some ⟨gp, 0, none⟩) (allp c c.nb) ∧ (∀ i, i < c.nb → w'.cell? ⟨gb, i, none⟩ = some (.bool (c.bad i))) ∧ ∀ i, i < c.nb → w'.cell? ⟨gw, i, none⟩ = some (.int .i64 (c.wear i))) ∧ Below w.heap.size w w' := by
  obtain ⟨i0, hi, hz0, hz1, hz2⟩ := info_parts Try.infoPg
  obtain ⟨i1, hi1, hy0, hy1, hy2⟩ := info_parts Try.infoBoD
  obtain ⟨i2, hi2, hx0, hx1, hx2⟩ := info_parts Try.infoInD
  have hgd := h.good
  unfold Gd at hgd
  obtain ⟨nb, hnb⟩ : ∃ nb, c.nb = nb := ⟨_, rfl⟩
  obtain ⟨np, hnp⟩ : ∃ np, c.np = np := ⟨_, rfl⟩
  have h1 : 7 < nb ∧ nb < 129 := by omega
  have h2 : 3 < np ∧ np < 33 := by omega
  have HNb := Lib.hid hnb
  have HNp := Lib.hid hnp
  have H := Lib.hid h
  obtain ⟨cp0, r3⟩ := h.row
  have hop : o.p = .pointer (some ⟨o.bc, 0, none⟩) := rfl
  rw [hop]
  rw [hnb] at r3 ⊢
  rw [hnp]
  have HI0 : Hid (DpI w.heap.size w c 0 0 0 (.slice none 0 0) (.slice none 0 0) (.slice none 0 0)) := Lib.hid ⟨Nat.le_refl _, ⟨[], by rw [Nat.zero_mul]; exact World.ownsRow_nil .., fun i hi => by omega⟩, World.ownsRow_nil .., World.ownsRow_nil ..⟩
  clear h hgd hnb hnp hop
  go_enter Try.func12, Try.ntmps12
  go_wp2_with fail
  go_loopw [5, 6, 7, 17] (fun vp vb vw i wr => ∃ k : Nat, k ≤ nb ∧ i = .int .i64 k ∧ Hid (DpI w.heap.size wr c k k k vp vb vw) ∧ Hid (Below w.heap.size w wr)) (fun _ _ _ i _ => nb - (intOf i).toNat)
  case atStart => exact ⟨0, Nat.zero_le _, rfl, HI0, Lib.hid (Below.refl _ _)⟩
  case round =>
    obtain ⟨k, hkn, rfl, hI, hB⟩ := hrel
    by_cases hlt : k < nb
    · have hlt' : (k : Int) < (nb : Int) := by omega
      have k0 : (0 : Int) ≤ (k : Int) := by omega
      have hkc : k < c.nb := by rw [HNb.out]; exact hlt
      have hD := H.out.below hB.out
      obtain ⟨b0, b1, b2, b3⟩ := hD.blk k hkc
      have hrows := hD.rows k hkc
      have hsm := H.out.small k hkc
      rw [HNp.out] at b0
      have HS := Lib.hid hsm
      have hal := (Below.refl wr.heap.size wr).alloc (Nat.le_refl _) (.cells #[.slice (some ⟨o.pb k, 0, none⟩) np np, .bool (c.broken k), .bool (c.bad k), .int .i64 (c.wear k)] 75)
      have HR := Lib.hid (hrows.below hal)
      have HBk := Lib.hid (Blk.new wr 75 #[.slice (some ⟨o.pb k, 0, none⟩) np np, .bool (c.broken k), .bool (c.bad k), .int .i64 (c.wear k)])
      have HB1 := Lib.hid (hB.out.trans (hal.mono hB.out.size))
      have HI1 := Lib.hid (hI.out.below hal)
      clear hD hrows hsm hal
      go_upto_region 9 with (fail)
      generalize (wr.alloc (.cells #[.slice (some ⟨o.pb k, 0, none⟩) np np, .bool (c.broken k), .bool (c.bad k), .int .i64 (c.wear k)] 75)) = w1 at HR HBk HB1 HI1 ⊢
      obtain ⟨fb, hfb⟩ : ∃ fb, wr.heap.size = fb := ⟨_, rfl⟩
      rw [hfb] at HBk ⊢
      have x0 : w1.cell? ⟨fb, 0, none⟩ = some (.slice (some ⟨o.pb k, 0, none⟩) np np) := HBk.out.cell 0
      have HCo := Lib.hid (copied_any (some ⟨o.pb k, 0, none⟩) np np (pgs c k) w1 HR.out (by rw [pgs_len, HNp.out]) (by omega) HS.out)
      clear hfb b0 b1 b2 b3 hI hB HR HS
      go_wp2_with fail
      refine HCo.out.mono ?_
      rintro e w2 ⟨rfl, hrn, hb2⟩
      have hI2 := HI1.out.below hb2
      have HB2 := Lib.hid (HB1.out.trans (hb2.mono HB1.out.size))
      have HBk2 := Lib.hid (HBk.out.below hb2 HBk.out.lt)
      obtain ⟨ps, hps, hpp⟩ := hI2.ps
      obtain ⟨cs, hcs, hcz, hcv⟩ := hrn.all (by rw [pgs_len, HNp.out])
      have hcz2 : cs.size = np := by rw [hcz, pgs_len, HNp.out]
      have hnew : ∀ i, i < c.np → ∃ v, cs.toList[i]? = some v ∧ PgX w2 (DX u5 u6 u7) v (pgs c k)[i]! := fun i hi => by
        obtain ⟨v, g1, g2⟩ := hcv i (by rw [pgs_len]; exact hi)
        exact ⟨v, by rw [Array.getElem?_toList]; exact g1, g2.pgx (fun b hb => Nat.lt_succ_of_lt (HI1.out.lt b hb).2)⟩
      have HOne : Hid (∀ u ∈ cs.toList, u.oneCell' = true) := Lib.hid (fun u hu => by
        obtain ⟨i, hi, rfl⟩ := List.getElem_of_mem hu
        have hi2 : i < c.np := by rw [Array.length_toList] at hi; rw [HNp.out]; omega
        obtain ⟨v, g1, A, cc, g2, -⟩ := hnew i hi2
        rw [List.getElem?_eq_getElem hi] at g1
        injection g1 with g1
        rw [g1, g2]; rfl)
      have hps2 : w2.ownsRow w.heap.size 27 1 u5 (k * np) ps := by have := hps; rw [HNp.out] at this; exact this
      have HPs := Lib.hid hps2
      have HPush := Lib.hid (fun (w' : World) v' h1 hg hl => hI2.pushP (w' := w') (v' := v') hps hpp hnew h1 hg hl)
      rw [HNp.out] at HPush
      have HC2 : Hid (∀ j u, cs.toList[j]? = some u → w2.cell? ((⟨w1.heap.size, 0, none⟩ : Addr).add j) = some u) := Lib.hid (fun j u hu => by
        rw [Addr.add_lit, Nat.zero_add]
        exact (hcs.cell j).trans (by rw [← hu, Array.getElem?_toList]))
      have HLn : Hid (cs.toList.length = np * 1) := Lib.hid (by rw [Array.length_toList, hcz2, Nat.mul_one])
      have hkn2 : k * np ≤ 128 * 32 := Nat.mul_le_mul (by omega) (by omega)
      have HK := Lib.hid hkn2
      clear hI2 hps hpp hcs hcz hcv hcz2 hnew hps2 hrn hb2 x0 HCo HBk HB1 HI1 hkn2
      go_wp2_with (at_builtin; refine wpList_append_own_at _ rfl _ _ 24 rfl w.heap.size 27 i0 (.slice none 0 0) 1 24 Try.underlying24 hi hz0 hz1 hz2 rfl (by decide) _ _ _ rfl HPs.out ⟨w1.heap.size, 0, none⟩ np np cs.toList rfl HLn.out HC2.out HOne.out ?c1 ?c2 HB2.out.size ?_)
      case c1 => have := HK.out; unfold maxLen; omega
      case c2 => have := HK.out; omega
      intro v' w3 h1 hg _ hl
      have HI3 := Lib.hid (HPush.out w3 v' h1 hg hl)
      have hb3 : Below w.heap.size w w3 := HB2.out.trans ((kp_grown hg).below (fun b e => (HPs.out.lt b e).1) HB2.out.size)
      have hne3 : u5.ownBlock ≠ some fb := fun e => by
        rcases HPs.out.2 with ⟨h0, -⟩ | ⟨g, cap, cur, h0, -, hgg, -⟩
        · rw [h0] at e; simp [Value.ownBlock] at e
        · rw [h0] at e
          simp [Value.ownBlock] at e
          subst e
          rw [show w2.heap[g]? = _ from HBk2.out] at hgg
          injection hgg with hgg
          injection hgg with _ q
          exact absurd q (by decide)
      have HBk3 : Hid (Blk w3 fb 75 #[.slice (some ⟨o.pb k, 0, none⟩) np np, .bool (c.broken k), .bool (c.bad k), .int .i64 (c.wear k)]) := Lib.hid (HBk2.out.kp (kp_grown hg) hne3)
      have HB3 := Lib.hid hb3
      clear h1 hg hl hb3 hne3 HPush HC2 HLn HOne HPs HB2 HBk2
      have x2 : w3.cell? ⟨fb, 2, none⟩ = some (.bool (c.bad k)) := HBk3.out.cell 2
      go_wp2_with (at_builtin; refine wpList_append_own_at _ rfl _ _ 25 rfl w.heap.size 4 i1 (.bool false) 1 1 Try.underlying25 hi1 hy0 hy1 hy2 rfl (by decide) _ _ _ rfl (HI3.out.b.alloc _) ⟨w3.heap.size, 0, none⟩ 1 1 [.bool (c.bad k)] rfl rfl (cell_one_new _ _ _) ?c1 ?c2 ?c3 ?c4 ?_)
      case c1 => intro u hu; simp at hu; subst hu; rfl
      case c2 => unfold maxLen; omega
      case c3 => omega
      case c4 => rw [World.size_alloc]; have := HB3.out.size; omega
      intro v2 w4 h1 hg _ hl
      have HI4 := Lib.hid (HI3.out.pushB h1 hg (by rw [World.size_alloc]; exact hl))
      have hb4 : Below w.heap.size w w4 := (HB3.out.alloc HB3.out.size _).trans ((kp_grown hg).below (fun b e => (HI3.out.b.lt b e).1) (by rw [World.size_alloc]; have := HB3.out.size; omega))
      have hne4 : u6.ownBlock ≠ some fb := fun e => by
        rcases HI3.out.b.2 with ⟨h0, -⟩ | ⟨g, cap, cur, h0, -, hgg, -⟩
        · rw [h0] at e; simp [Value.ownBlock] at e
        · rw [h0] at e
          simp [Value.ownBlock] at e
          subst e
          rw [show w3.heap[g]? = _ from HBk3.out] at hgg
          injection hgg with hgg
          injection hgg with _ q
          exact absurd q (by decide)
      have HBk4 : Hid (Blk w4 fb 75 #[.slice (some ⟨o.pb k, 0, none⟩) np np, .bool (c.broken k), .bool (c.bad k), .int .i64 (c.wear k)]) := Lib.hid ((HBk3.out.alloc _).kp (kp_grown hg) hne4)
      have HB4 := Lib.hid hb4
      clear h1 hg hl hb4 hne4 HI3 HB3 HBk3 x2
      have x3 : w4.cell? ⟨fb, 3, none⟩ = some (.int .i64 (c.wear k)) := HBk4.out.cell 3
      go_wp2_with (at_builtin; refine wpList_append_own_at _ rfl _ _ 26 rfl w.heap.size 3 i2 (.int .i64 0) 1 8 Try.underlying26 hi2 hx0 hx1 hx2 rfl (by decide) _ _ _ rfl (HI4.out.w.alloc _) ⟨w4.heap.size, 0, none⟩ 1 1 [.int .i64 (c.wear k)] rfl rfl (cell_one_new _ _ _) ?c1 ?c2 ?c3 ?c4 ?_)
      case c1 => intro u hu; simp at hu; subst hu; rfl
      case c2 => unfold maxLen; omega
      case c3 => omega
      case c4 => rw [World.size_alloc]; have := HB4.out.size; omega
      intro v3 w5 h1 hg _ hl
      have HI5 := Lib.hid (HI4.out.pushW h1 hg (by rw [World.size_alloc]; exact hl))
      have HB5 : Hid (Below w.heap.size w w5) := Lib.hid ((HB4.out.alloc HB4.out.size _).trans ((kp_grown hg).below (fun b e => (HI4.out.w.lt b e).1) (by rw [World.size_alloc]; have := HB4.out.size; omega)))
      clear h1 hg hl HI4 HB4 HBk4 x3
      go_wp2
      go_roundw
      case rel => exact ⟨k + 1, by omega, by go_num, HI5, HB5⟩
      case measure => simp [intOf]; omega
    · have hkn2 : k = nb := by omega
      have hlt' : ¬ (k : Int) < (nb : Int) := by omega
      subst hkn2
      obtain ⟨ps, hps, hpp⟩ := hI.out.ps
      obtain ⟨gp, cp, rfl⟩ := own_slice hps (by rw [HNp.out]; exact Nat.mul_pos (by omega) (by omega))
      obtain ⟨gb, cb, rfl⟩ := own_slice hI.out.b (by omega)
      obtain ⟨gw, cw, rfl⟩ := own_slice hI.out.w (by omega)
      have HBb : Hid (∀ i, i < k → wr.cell? ⟨gb, i, none⟩ = some (.bool (c.bad i))) := Lib.hid (fun i hi => by rw [own_cells hI.out.b hi]; simp [bads, hi])
      have HWw : Hid (∀ i, i < k → wr.cell? ⟨gw, i, none⟩ = some (.int .i64 (c.wear i))) := Lib.hid (fun i hi => by rw [own_cells hI.out.w hi]; simp [wears, hi])
      have HRl : Hid (Rl wr (some ⟨gp, 0, none⟩) (allp c k)) := Lib.hid (.inr ⟨gp, 0, rfl, fun i hi => by
        rw [allp_len] at hi
        obtain ⟨v, g1, A, cc, rfl, g3, g4⟩ := hpp i hi
        rw [Nat.zero_add, own_cells hps hi]
        exact ⟨A, cc, g1, g3, g4.1⟩⟩)
      rw [HNp.out]
      clear hps hpp hI
      go_wp2
      go_ret3
      exact ⟨⟨gp, cp, gb, cb, gw, ⟨cw, rfl⟩, HRl.out, HBb.out, HWw.out⟩, hB.out⟩

end Go.Proofs.Ytiaaeiefgnoiaaa
