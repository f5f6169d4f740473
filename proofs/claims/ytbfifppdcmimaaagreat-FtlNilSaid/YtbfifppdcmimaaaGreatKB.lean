/-
  A chip in memory: the blocks that are its own, what stands in them, and what leaves it as it is. Nothing of one statement alone stands here.
-/
import Derived.Test.YtbfifppdcmimaaaGreatKA
import Derived.Laws.MakeOwn
import Derived.Laws.OwnMore
import Derived.Laws.CopyOwn
import Derived.OwnWalk
import Derived.Lib.SliceRun
import Derived.WalkSpells
import Derived.WalkMore
namespace Go.Proofs.YtbfifppdcmimaaaGreat
open Go.RowKit Crcm Go.ChangeShapes

/-- of what was there nothing but these blocks has turned -/
structure Kp (F : Nat → Prop) (w w' : World) : Prop where
  os : w'.os = w.os
  tape : w'.tape = w.tape
  output : w'.output = w.output
  size : w.heap.size ≤ w'.heap.size
  block : ∀ k, k < w.heap.size → ¬ F k → w'.heap[k]? = w.heap[k]?
theorem Kp.refl (F : Nat → Prop) (w : World) : Kp F w w := ⟨rfl, rfl, rfl, Nat.le_refl _, fun _ _ _ => rfl⟩
theorem Kp.trans {F : Nat → Prop} {a b c : World} (h : Kp F a b) (k : Kp F b c) : Kp F a c :=
  ⟨k.os.trans h.os, k.tape.trans h.tape, k.output.trans h.output, Nat.le_trans h.size k.size, fun i hi hf => (k.block i (Nat.lt_of_lt_of_le hi h.size) hf).trans (h.block i hi hf)⟩
theorem Kp.mono {F G : Nat → Prop} {w w' : World} (h : Kp F w w') (hf : ∀ k, F k → G k) : Kp G w w' :=
  ⟨h.os, h.tape, h.output, h.size, fun k hk hg => h.block k hk fun g => hg (hf k g)⟩
theorem Kp.of_below {F : Nat → Prop} {w w' : World} (h : Below w.heap.size w w') : Kp F w w' :=
  ⟨h.os, h.tape, h.output, h.size, fun k hk _ => h.block k hk⟩
theorem Kp.below {F : Nat → Prop} {B : Nat} {w w' : World} (h : Kp F w w') (hF : ∀ k, F k → B ≤ k) (hB : B ≤ w.heap.size) : Below B w w' :=
  ⟨h.os, h.tape, h.output, h.size, fun k hk => h.block k (Nat.lt_of_lt_of_le hk hB) fun g => Nat.lt_irrefl _ (Nat.lt_of_lt_of_le hk (hF k g))⟩
theorem Kp.alloc {F : Nat → Prop} {a w : World} (h : Kp F a w) (o : Obj) : Kp F a (w.alloc o) :=
  h.trans (Kp.of_below ((Below.refl _ _).alloc (Nat.le_refl _) o))
theorem Kp.drew {F : Nat → Prop} {a w : World} (h : Kp F a w) : Kp F a w.drew := ⟨h.os, h.tape, h.output, h.size, h.block⟩
theorem Kp.setCell {F : Nat → Prop} {a w : World} (h : Kp F a w) {p : Addr} (hp : F p.block ∨ a.heap.size ≤ p.block) (u : Value) : Kp F a (w.setCell p u) :=
  ⟨h.os, h.tape, h.output, by have := h.size; simpa [World.setCell] using this, fun k hk hf => by
    rw [Below.heap_setCell w p u k (by rcases hp with g | g; exact fun e => hf (e ▸ g); omega)]
    exact h.block k hk hf⟩
theorem Kp.cell {F : Nat → Prop} {w w' : World} (h : Kp F w w') {p : Addr} (hl : p.block < w.heap.size) (hp : ¬ F p.block) : w'.cell? p = w.cell? p :=
  World.cell?_of_block (w := w) (h.block p.block hl hp)
theorem Blk.kp {F : Nat → Prop} {w w' : World} {g : Nat} {t : TypeId} {cs : Array Value} (h : Blk w g t cs) (hk : Kp F w w') (hg : ¬ F g) : Blk w' g t cs := (hk.block g h.lt hg).trans h

/-- a row of bytes that lies in none of these blocks -/
def RwX (w : World) (X : Nat → Prop) (a : Option Addr) (l : List Int) : Prop := Rw w a l ∧ ∀ b off s, a = some ⟨b, off, s⟩ → l ≠ [] → ¬ X b
theorem RwX.kp {F X : Nat → Prop} {w w' : World} {a : Option Addr} {l : List Int} (h : RwX w X a l) (hk : Kp F w w') (hf : ∀ b, F b → X b) : RwX w' X a l := by
  obtain ⟨⟨h1, h2, h3⟩, h4⟩ := h
  refine ⟨⟨h1, h2, ?_⟩, h4⟩
  rcases h3 with h3 | ⟨b, off, rfl, h3⟩
  · exact .inl h3
  · refine .inr ⟨b, off, rfl, fun i hi => ?_⟩
    have hx := h4 b off none rfl (fun e => by rw [e] at hi; simp at hi)
    rw [hk.cell (p := ⟨b, off + i, none⟩) (block_lt_of_cell (h3 i hi)) (fun g => hx (hf _ g))]
    exact h3 i hi
theorem RwX.nil {w : World} {X : Nat → Prop} {a : Option Addr} : RwX w X a [] := ⟨Rw.nil, fun _ _ _ _ h => absurd rfl h⟩
theorem RwX.of_new {w0 w : World} {X : Nat → Prop} {a : Option Addr} {l : List Int} (h : Rw w a l) (hX : ∀ b, X b → b < w0.heap.size) (ha : ∀ b off s, a = some ⟨b, off, s⟩ → l ≠ [] → w0.heap.size ≤ b) : RwX w X a l :=
  ⟨h, fun b off s e hl g => by have := hX b g; have := ha b off s e hl; omega⟩

/-- a fault -/
structure Fl where
  at' : Int
  kind : Int
  data : List Int
/-- faults in memory -/
def FlAt (w : World) (X : Nat → Prop) (v : Value) (fl : List Fl) : Prop :=
  ∃ a cap, v = .slice a fl.length cap ∧ fl.length ≤ maxLen ∧ (fl = [] ∨ ∃ b off, a = some ⟨b, off, none⟩ ∧ ¬ X b ∧ ∀ j (h : j < fl.length),
    w.cell? ⟨b, off + j * 3, none⟩ = some (.int .i64 fl[j].at') ∧ w.cell? ⟨b, off + j * 3 + 1, none⟩ = some (.int .i64 fl[j].kind) ∧
    ∃ da dc, w.cell? ⟨b, off + j * 3 + 2, none⟩ = some (.slice da fl[j].data.length dc) ∧ RwX w X da fl[j].data ∧ fl[j].data.length ≤ dc)
theorem FlAt.kp {F X : Nat → Prop} {w w' : World} {v : Value} {fl : List Fl} (h : FlAt w X v fl) (hk : Kp F w w') (hf : ∀ b, F b → X b) : FlAt w' X v fl := by
  obtain ⟨a, cap, h1, h2, h3⟩ := h
  refine ⟨a, cap, h1, h2, ?_⟩
  rcases h3 with h3 | ⟨b, off, rfl, hx, h3⟩
  · exact .inl h3
  · refine .inr ⟨b, off, rfl, hx, fun j hj => ?_⟩
    obtain ⟨c0, c1, da, dc, c2, hr, hl⟩ := h3 j hj
    have hn : ¬ F b := fun g => hx (hf _ g)
    refine ⟨?_, ?_, da, dc, ?_, hr.kp hk hf, hl⟩
    · rw [hk.cell (p := ⟨b, off + j * 3, none⟩) (block_lt_of_cell c0) hn]; exact c0
    · rw [hk.cell (p := ⟨b, off + j * 3 + 1, none⟩) (block_lt_of_cell c1) hn]; exact c1
    · rw [hk.cell (p := ⟨b, off + j * 3 + 2, none⟩) (block_lt_of_cell c2) hn]; exact c2
theorem FlAt.nil {w : World} {X : Nat → Prop} {a : Option Addr} {c : Nat} : FlAt w X (.slice a 0 c) [] := ⟨a, c, rfl, Nat.zero_le _, .inl rfl⟩

/-- a page in memory: erased, or bytes -/
def PgAt (w : World) (X : Nat → Prop) (v : Value) (wd : Nat) : Option (List Int) → Prop
  | none => v = .slice none 0 0
  | some l => ∃ b off c, v = .slice (some ⟨b, off, none⟩) wd c ∧ wd ≤ c ∧ l.length = wd ∧ RwX w X (some ⟨b, off, none⟩) l
theorem PgAt.kp {F X : Nat → Prop} {w w' : World} {v : Value} {wd : Nat} {p : Option (List Int)} (h : PgAt w X v wd p) (hk : Kp F w w') (hf : ∀ b, F b → X b) : PgAt w' X v wd p := by
  cases p with
  | none => exact h
  | some l =>
    obtain ⟨b, off, c, h1, h2, h3, h4⟩ := h
    exact ⟨b, off, c, h1, h2, h3, h4.kp hk hf⟩

/-- a chip -/
structure Ch where
  nb : Nat
  np : Nat
  sz : Nat
  pg : Nat → Nat → Option (List Int)
  broken : Nat → Bool
  bad : Nat → Bool
  wear : Nat → Int
  up : Bool
  fl : List Fl
  since : Int
  strokes : Int
  reads : Int
/-- the numbers of the blocks of memory that are a chip's own -/
structure Own where
  bc : Nat
  bb : Nat
  pb : Nat → Nat
def Own.F (o : Own) (n b : Nat) : Prop := b = o.bc ∨ b = o.bb ∨ ∃ k, k < n ∧ b = o.pb k
/-- a right geometry -/
def Gd (nb np sz : Nat) : Prop := 7 < nb ∧ nb < 129 ∧ 3 < np ∧ np < 33 ∧ (sz = 64 ∨ sz = 128 ∨ sz = 256 ∨ sz = 512)

/-- what stands at the chip's own block -/
def chV (o : Own) (c : Ch) (fv : Value) : Array Value :=
  #[.int .i64 c.nb, .int .i64 c.np, .int .i64 c.sz, .slice (some ⟨o.bb, 0, none⟩) c.nb c.nb, .bool c.up, fv, .int .i64 c.since, .int .i64 c.strokes, .int .i64 c.reads]
/-- what stands in the row of its blocks -/
def BkV (o : Own) (c : Ch) (cs : Array Value) : Prop :=
  cs.size = 4 * c.nb ∧ ∀ k, k < c.nb → cs[k * 4]? = some (.slice (some ⟨o.pb k, 0, none⟩) c.np c.np) ∧ cs[k * 4 + 1]? = some (.bool (c.broken k)) ∧ cs[k * 4 + 2]? = some (.bool (c.bad k)) ∧ cs[k * 4 + 3]? = some (.int .i64 (c.wear k))
/-- what stands in the row of a block's pages -/
def PgV (w : World) (X : Nat → Prop) (np wd : Nat) (f : Nat → Option (List Int)) (cs : Array Value) : Prop :=
  cs.size = np ∧ ∀ i, i < np → ∃ v, cs[i]? = some v ∧ PgAt w X v wd (f i)
/-- a chip in memory; X: what may be written by anyone -/
structure ChAt (w : World) (X : Nat → Prop) (o : Own) (c : Ch) : Prop where
  good : Gd c.nb c.np c.sz
  old : ∀ b, X b → b < w.heap.size
  inX : ∀ b, o.F c.nb b → X b
  neb : o.bc ≠ o.bb
  nep : ∀ k, k < c.nb → o.pb k ≠ o.bc ∧ o.pb k ≠ o.bb
  inj : ∀ k j, k < c.nb → j < c.nb → o.pb k = o.pb j → k = j
  chip : ∃ fv, Blk w o.bc 96 (chV o c fv) ∧ FlAt w X fv c.fl
  blocks : ∃ cs, Blk w o.bb 99 cs ∧ BkV o c cs
  pages : ∀ k, k < c.nb → ∃ cs, Blk w (o.pb k) 23 cs ∧ PgV w X c.np (c.sz + 32) (c.pg k) cs

/-- what leaves the chip's own blocks as they are, and writes only where may be written, leaves the chip -/
theorem ChAt.kp {F X : Nat → Prop} {w w' : World} {o : Own} {c : Ch} (h : ChAt w X o c) (hk : Kp F w w') (hf : ∀ b, F b → X b) (hd : ∀ b, o.F c.nb b → ¬ F b) : ChAt w' X o c := by
  refine ⟨h.good, fun b hb => Nat.lt_of_lt_of_le (h.old b hb) hk.size, h.inX, h.neb, h.nep, h.inj, ?_, ?_, fun k hkn => ?_⟩
  · obtain ⟨fv, h1, h2⟩ := h.chip
    exact ⟨fv, h1.kp hk (hd _ (.inl rfl)), h2.kp hk hf⟩
  · obtain ⟨cs, h1, h2⟩ := h.blocks
    exact ⟨cs, h1.kp hk (hd _ (.inr (.inl rfl))), h2⟩
  · obtain ⟨cs, h1, h2, h3⟩ := h.pages k hkn
    refine ⟨cs, h1.kp hk (hd _ (.inr (.inr ⟨k, hkn, rfl⟩))), h2, fun i hi => ?_⟩
    obtain ⟨v, g1, g2⟩ := h3 i hi
    exact ⟨v, g1, g2.kp hk hf⟩
theorem ChAt.below {X : Nat → Prop} {w w' : World} {o : Own} {c : Ch} (h : ChAt w X o c) (hb : Below w.heap.size w w') : ChAt w' X o c :=
  h.kp (F := fun _ => False) (Kp.of_below hb) (fun _ g => g.elim) (fun _ _ g => g)

/-- what may be written grows by new blocks -/
theorem RwX.widen {w w' : World} {X X' : Nat → Prop} {a : Option Addr} {l : List Int} (h : RwX w X a l) (hb : Below w.heap.size w w') (hX : ∀ b, X' b → X b ∨ w.heap.size ≤ b) : RwX w' X' a l := by
  obtain ⟨h1, h2⟩ := h
  refine ⟨h1.below hb, fun b off s e hl g => ?_⟩
  rcases hX b g with g | g
  · exact h2 b off s e hl g
  · rcases h1.2.2 with h3 | ⟨b', off', e', h3⟩
    · exact hl h3
    · rw [e'] at e
      injection e with e
      injection e with e1 e2 e3
      subst e1
      have hp : 0 < l.length := by
        cases l with
        | nil => exact absurd rfl hl
        | cons x r => simp
      have := block_lt_of_cell (h3 0 hp)
      have : b' < w.heap.size := this
      omega
theorem FlAt.widen {w w' : World} {X X' : Nat → Prop} {v : Value} {fl : List Fl} (h : FlAt w X v fl) (hb : Below w.heap.size w w') (hX : ∀ b, X' b → X b ∨ w.heap.size ≤ b) : FlAt w' X' v fl := by
  obtain ⟨a, cap, h1, h2, h3⟩ := h
  refine ⟨a, cap, h1, h2, ?_⟩
  by_cases h0 : fl = []
  · exact .inl h0
  rcases h3 with h3 | ⟨b, off, rfl, hx, h3⟩
  · exact absurd h3 h0
  have hp : 0 < fl.length := by
    cases fl with
    | nil => exact absurd rfl h0
    | cons x r => simp
  have hbl : b < w.heap.size := block_lt_of_cell (h3 0 hp).1
  refine .inr ⟨b, off, rfl, fun g => ?_, fun j hj => ?_⟩
  · rcases hX b g with g | g
    · exact hx g
    · omega
  · obtain ⟨c0, c1, da, dc, c2, hr, hl⟩ := h3 j hj
    exact ⟨(hb.cell (p := ⟨b, off + j * 3, none⟩) hbl).trans c0, (hb.cell (p := ⟨b, off + j * 3 + 1, none⟩) hbl).trans c1, da, dc, (hb.cell (p := ⟨b, off + j * 3 + 2, none⟩) hbl).trans c2, hr.widen hb hX, hl⟩
theorem PgAt.widen {w w' : World} {X X' : Nat → Prop} {v : Value} {wd : Nat} {p : Option (List Int)} (h : PgAt w X v wd p) (hb : Below w.heap.size w w') (hX : ∀ b, X' b → X b ∨ w.heap.size ≤ b) : PgAt w' X' v wd p := by
  cases p with
  | none => exact h
  | some l =>
    obtain ⟨b, off, c, h1, h2, h3, h4⟩ := h
    exact ⟨b, off, c, h1, h2, h3, h4.widen hb hX⟩
theorem ChAt.widen {w w' : World} {X X' : Nat → Prop} {o : Own} {c : Ch} (h : ChAt w X o c) (hb : Below w.heap.size w w') (hX : ∀ b, X' b → X b ∨ w.heap.size ≤ b) (hO : ∀ b, X' b → b < w'.heap.size) (hI : ∀ b, X b → X' b) : ChAt w' X' o c := by
  refine ⟨h.good, hO, fun b hb => hI _ (h.inX b hb), h.neb, h.nep, h.inj, ?_, ?_, fun k hkn => ?_⟩
  · obtain ⟨fv, h1, h2⟩ := h.chip
    exact ⟨fv, h1.below hb h1.lt, h2.widen hb hX⟩
  · obtain ⟨cs, h1, h2⟩ := h.blocks
    exact ⟨cs, h1.below hb h1.lt, h2⟩
  · obtain ⟨cs, h1, h2, h3⟩ := h.pages k hkn
    refine ⟨cs, h1.below hb h1.lt, h2, fun i hi => ?_⟩
    obtain ⟨v, g1, g2⟩ := h3 i hi
    exact ⟨v, g1, g2.widen hb hX⟩
theorem RwX.narrow {w : World} {X X' : Nat → Prop} {a : Option Addr} {l : List Int} (h : RwX w X' a l) (hI : ∀ b, X b → X' b) : RwX w X a l := ⟨h.1, fun b off s e hl g => h.2 b off s e hl (hI b g)⟩
theorem FlAt.narrow {w : World} {X X' : Nat → Prop} {v : Value} {fl : List Fl} (h : FlAt w X' v fl) (hI : ∀ b, X b → X' b) : FlAt w X v fl := by
  obtain ⟨a, cap, h1, h2, h3⟩ := h
  refine ⟨a, cap, h1, h2, ?_⟩
  rcases h3 with h3 | ⟨b, off, rfl, hx, h3⟩
  · exact .inl h3
  · refine .inr ⟨b, off, rfl, fun g => hx (hI b g), fun j hj => ?_⟩
    obtain ⟨c0, c1, da, dc, c2, hr, hl⟩ := h3 j hj
    exact ⟨c0, c1, da, dc, c2, hr.narrow hI, hl⟩
theorem PgAt.narrow {w : World} {X X' : Nat → Prop} {v : Value} {wd : Nat} {p : Option (List Int)} (h : PgAt w X' v wd p) (hI : ∀ b, X b → X' b) : PgAt w X v wd p := by
  cases p with
  | none => exact h
  | some l =>
    obtain ⟨b, off, c, h1, h2, h3, h4⟩ := h
    exact ⟨b, off, c, h1, h2, h3, h4.narrow hI⟩
theorem ChAt.narrow {w : World} {X X' : Nat → Prop} {o : Own} {c : Ch} (h : ChAt w X' o c) (hI : ∀ b, X b → X' b) (hF : ∀ b, o.F c.nb b → X b) : ChAt w X o c := by
  refine ⟨h.good, fun b hb => h.old b (hI b hb), hF, h.neb, h.nep, h.inj, ?_, h.blocks, fun k hkn => ?_⟩
  · obtain ⟨fv, h1, h2⟩ := h.chip
    exact ⟨fv, h1, h2.narrow hI⟩
  · obtain ⟨cs, h1, h2, h3⟩ := h.pages k hkn
    refine ⟨cs, h1, h2, fun i hi => ?_⟩
    obtain ⟨v, g1, g2⟩ := h3 i hi
    exact ⟨v, g1, g2.narrow hI⟩

theorem ChAt.cell {w : World} {X : Nat → Prop} {o : Own} {c : Ch} (h : ChAt w X o c) :
    w.cell? ⟨o.bc, 0, none⟩ = some (.int .i64 c.nb) ∧ w.cell? ⟨o.bc, 1, none⟩ = some (.int .i64 c.np) ∧ w.cell? ⟨o.bc, 2, none⟩ = some (.int .i64 c.sz) ∧ w.cell? ⟨o.bc, 3, none⟩ = some (.slice (some ⟨o.bb, 0, none⟩) c.nb c.nb) ∧
    w.cell? ⟨o.bc, 4, none⟩ = some (.bool c.up) ∧ w.cell? ⟨o.bc, 6, none⟩ = some (.int .i64 c.since) ∧ w.cell? ⟨o.bc, 7, none⟩ = some (.int .i64 c.strokes) ∧ w.cell? ⟨o.bc, 8, none⟩ = some (.int .i64 c.reads) := by
  obtain ⟨fv, h1, -⟩ := h.chip
  exact ⟨h1.cell 0, h1.cell 1, h1.cell 2, h1.cell 3, h1.cell 4, h1.cell 6, h1.cell 7, h1.cell 8⟩
theorem ChAt.froz {w : World} {X : Nat → Prop} {o : Own} {c : Ch} (h : ChAt w X o c) (i : Nat) : w.frozen? ⟨o.bc, i, none⟩ = false := by
  obtain ⟨fv, h1, -⟩ := h.chip
  exact h1.frozen i
theorem ChAt.bcell {w : World} {X : Nat → Prop} {o : Own} {c : Ch} (h : ChAt w X o c) {k : Nat} (hk : k < c.nb) :
    w.cell? ⟨o.bb, k * 4, none⟩ = some (.slice (some ⟨o.pb k, 0, none⟩) c.np c.np) ∧ w.cell? ⟨o.bb, k * 4 + 1, none⟩ = some (.bool (c.broken k)) ∧ w.cell? ⟨o.bb, k * 4 + 2, none⟩ = some (.bool (c.bad k)) ∧ w.cell? ⟨o.bb, k * 4 + 3, none⟩ = some (.int .i64 (c.wear k)) := by
  obtain ⟨cs, h1, h2, h3⟩ := h.blocks
  obtain ⟨g0, g1, g2, g3⟩ := h3 k hk
  exact ⟨(h1.cell _).trans g0, (h1.cell _).trans g1, (h1.cell _).trans g2, (h1.cell _).trans g3⟩
theorem ChAt.bfroz {w : World} {X : Nat → Prop} {o : Own} {c : Ch} (h : ChAt w X o c) (i : Nat) : w.frozen? ⟨o.bb, i, none⟩ = false := by
  obtain ⟨cs, h1, -⟩ := h.blocks
  exact h1.frozen i
theorem ChAt.pcell {w : World} {X : Nat → Prop} {o : Own} {c : Ch} (h : ChAt w X o c) {k i : Nat} (hk : k < c.nb) (hi : i < c.np) :
    ∃ v, w.cell? ⟨o.pb k, i, none⟩ = some v ∧ PgAt w X v (c.sz + 32) (c.pg k i) := by
  obtain ⟨cs, h1, h2, h3⟩ := h.pages k hk
  obtain ⟨v, g1, g2⟩ := h3 i hi
  exact ⟨v, (h1.cell _).trans g1, g2⟩
theorem ChAt.pfroz {w : World} {X : Nat → Prop} {o : Own} {c : Ch} (h : ChAt w X o c) {k : Nat} (hk : k < c.nb) (i : Nat) : w.frozen? ⟨o.pb k, i, none⟩ = false := by
  obtain ⟨cs, h1, -⟩ := h.pages k hk
  exact h1.frozen i
end Go.Proofs.YtbfifppdcmimaaaGreat

/-
  What a chip tells: the program's calls that only read, of a chip and of none. Nothing of one statement alone stands here.
-/
namespace Go.Proofs.YtbfifppdcmimaaaGreat
open Go.RowKit Crcm Go.ChangeShapes

theorem bret {a b : Bool} (h : a = b) : Ending.returned (.bool a) = .returned (.bool b) := by rw [h]
/-- a chip's address -/
abbrev Own.p (o : Own) : Value := .pointer (some ⟨o.bc, 0, none⟩)
/-- the address of one of its blocks -/
abbrev Own.q (o : Own) (k : Nat) : Value := .pointer (some ⟨o.bb, k * 4, none⟩)

set_option maxRecDepth 100000 in
theorem up_any {w : World} {X : Nat → Prop} {o : Own} {c : Ch} (h : ChAt w X o c) :
    Calls Tryz.prog 24 #[o.p] w fun e w' => e = .returned (.bool c.up) ∧ w = w' := by
  obtain ⟨-, -, -, -, c4, -⟩ := h.cell
  clear h
  go_enter Tryz.func24, Tryz.ntmps24
  go_wp2
  go_ret
  exact ⟨rfl, rfl⟩
theorem cell_alloc {w : World} {p : Addr} {v : Value} (h : w.cell? p = some v) (ob : Obj) : (w.alloc ob).cell? p = some v :=
  (((Below.refl w.heap.size w).alloc (Nat.le_refl _) ob).cell (block_lt_of_cell h)).trans h
set_option maxRecDepth 100000 in
theorem geo_any {w : World} {X : Nat → Prop} {o : Own} {c : Ch} (h : ChAt w X o c) :
    Calls Tryz.prog 23 #[o.p] w fun e w' => e = .returned (.agg #[.int .i64 c.nb, .int .i64 c.np, .int .i64 c.sz]) ∧ Below w.heap.size w w' := by
  obtain ⟨c0, c1, c2, -⟩ := h.cell
  have d0 := cell_alloc c0
  have d1 := cell_alloc c1
  have d2 := cell_alloc c2
  clear h c0 c1 c2
  go_enter Tryz.func23, Tryz.ntmps23
  go_wp2
  exact bodyPost_ret (v := .agg #[.int .i64 c.nb, .int .i64 c.np, .int .i64 c.sz]) (by simp [results, Tryz.results23, go_sem]) rfl ⟨rfl, (Below.refl _ _).alloc (Nat.le_refl _) _⟩
set_option maxRecDepth 100000 in
theorem width_any {w : World} {X : Nat → Prop} {o : Own} {c : Ch} (h : ChAt w X o c) :
    Calls Tryz.prog 49 #[o.p] w fun e w' => e = .returned (.int .i64 ((c.sz + 32 : Nat) : Int)) ∧ w = w' := by
  obtain ⟨-, -, c2, -⟩ := h.cell
  have g := h.good
  unfold Gd at g
  have z0 : c.sz ≤ 512 := by omega
  clear h g
  go_enter Tryz.func49, Tryz.ntmps49
  go_wp2
  go_ret
  exact ⟨by simp, rfl⟩
set_option maxRecDepth 100000 in
/-- the block of a number -/
theorem block_no {w : World} {X : Nat → Prop} {o : Own} {c : Ch} (h : ChAt w X o c) (k : Int) (hk : k < 0 ∨ c.nb ≤ k) :
    Calls Tryz.prog 76 #[o.p, .int .i64 k] w fun e w' => e = .returned (.pointer none) ∧ w = w' := by
  obtain ⟨-, -, -, c3, -⟩ := h.cell
  clear h
  by_cases h0 : k < 0
  · have t0 : decide (k < 0) = true := decide_eq_true h0
    clear h0 hk
    go_enter Tryz.func76, Tryz.ntmps76
    go_wp2
    go_ret
    exact ⟨rfl, rfl⟩
  · have t0 : decide (k < 0) = false := decide_eq_false h0
    have t1 : decide ((c.nb : Int) ≤ k) = true := decide_eq_true (by omega)
    clear h0 hk
    go_enter Tryz.func76, Tryz.ntmps76
    go_wp2
    go_ret
    exact ⟨rfl, rfl⟩
set_option maxRecDepth 100000 in
theorem block_yes {w : World} {X : Nat → Prop} {o : Own} {c : Ch} (h : ChAt w X o c) (k : Nat) (hk : k < c.nb) :
    Calls Tryz.prog 76 #[o.p, .int .i64 k] w fun e w' => e = .returned (o.q k) ∧ w = w' := by
  obtain ⟨-, -, -, c3, -⟩ := h.cell
  clear h
  have t0 : decide ((k : Int) < 0) = false := decide_eq_false (by omega)
  have t1 : decide ((c.nb : Int) ≤ (k : Int)) = false := decide_eq_false (by omega)
  have k0 : (0 : Int) ≤ (k : Int) := by omega
  have k1 : (k : Int) < (c.nb : Int) := by omega
  clear hk
  go_enter Tryz.func76, Tryz.ntmps76
  go_wp2
  go_ret
  exact ⟨by simp, rfl⟩

/-- what a block of a chip that is asked for answers (0: it is there) -/
def reE (c : Ch) (k : Int) : Int := if c.up then (if k < 0 ∨ c.nb ≤ k then 12 else 0) else 4
theorem reE_zero {c : Ch} {k : Int} (h : reE c k = 0) : c.up = true ∧ 0 ≤ k ∧ k < c.nb := by
  unfold reE at h
  split at h
  · split at h
    · cases h
    · exact ⟨by assumption, by omega, by omega⟩
  · cases h
theorem reE_yes {c : Ch} {k : Nat} (h : c.up = true) (hk : k < c.nb) : reE c k = 0 := by
  unfold reE; rw [if_pos h, if_neg (by omega)]

set_option maxRecDepth 100000 in
theorem reach_no {w : World} {X : Nat → Prop} {o : Own} {c : Ch} (h : ChAt w X o c) (k : Int) (hk : reE c k ≠ 0) :
    Calls Tryz.prog 72 #[o.p, .int .i64 k] w fun e w' => e = .returned (.tuple #[.pointer none, .int .i64 (reE c k)]) ∧ w = w' := by
  obtain ⟨-, -, -, -, c4, -⟩ := h.cell
  cases hu : c.up with
  | false =>
    have e : reE c k = 4 := by unfold reE; rw [hu]; rfl
    rw [e]
    rw [hu] at c4
    clear h hk e
    go_enter Tryz.func72, Tryz.ntmps72
    go_wp2
    go_ret2
    exact ⟨rfl, rfl⟩
  | true =>
    have hn : k < 0 ∨ (c.nb : Int) ≤ k := by
      refine Classical.byContradiction fun g => hk ?_
      unfold reE; rw [if_pos hu, if_neg g]
    have e : reE c k = 12 := by unfold reE; rw [if_pos hu, if_pos hn]
    rw [e]
    rw [hu] at c4
    have HB := Lib.hid (block_no h k hn)
    clear h hk e hn
    go_enter Tryz.func72, Tryz.ntmps72
    go_wp2_with fail
    refine HB.out.mono ?_
    rintro r w' ⟨rfl, rfl⟩
    go_wp2
    go_ret2
    exact ⟨rfl, rfl⟩
set_option maxRecDepth 100000 in
theorem reach_yes {w : World} {X : Nat → Prop} {o : Own} {c : Ch} (h : ChAt w X o c) (k : Nat) (hk : reE c k = 0) :
    Calls Tryz.prog 72 #[o.p, .int .i64 k] w fun e w' => e = .returned (.tuple #[o.q k, .int .i64 0]) ∧ w = w' := by
  obtain ⟨-, -, -, -, c4, -⟩ := h.cell
  obtain ⟨hu, -, h1⟩ := reE_zero hk
  rw [hu] at c4
  have HB := Lib.hid (block_yes h k (by omega))
  clear h hk hu h1
  go_enter Tryz.func72, Tryz.ntmps72
  go_wp2_with fail
  refine HB.out.mono ?_
  rintro r w' ⟨rfl, rfl⟩
  go_wp2
  go_ret2
  exact ⟨rfl, rfl⟩
/-- what a page of a chip that is asked for answers (0: it is there) -/
def rpE (c : Ch) (k page : Int) : Int := if reE c k = 0 then (if page < 0 ∨ c.np ≤ page then 12 else 0) else reE c k
theorem rpE_zero {c : Ch} {k page : Int} (h : rpE c k page = 0) : reE c k = 0 ∧ 0 ≤ page ∧ page < c.np := by
  unfold rpE at h
  split at h
  · split at h
    · cases h
    · exact ⟨by assumption, by omega, by omega⟩
  · exact absurd h (by assumption)

set_option maxRecDepth 100000 in
theorem reachPage_no {w : World} {X : Nat → Prop} {o : Own} {c : Ch} (h : ChAt w X o c) (k page : Int) (hk : rpE c k page ≠ 0) :
    Calls Tryz.prog 47 #[o.p, .int .i64 k, .int .i64 page] w fun e w' => e = .returned (.tuple #[.pointer none, .int .i64 (rpE c k page)]) ∧ w = w' := by
  by_cases h0 : reE c k = 0
  · have hn : page < 0 ∨ (c.np : Int) ≤ page := by
      refine Classical.byContradiction fun g => hk ?_
      unfold rpE; rw [if_pos h0, if_neg g]
    have e : rpE c k page = 12 := by unfold rpE; rw [if_pos h0, if_pos hn]
    obtain ⟨k, rfl⟩ : ∃ n : Nat, k = n := ⟨k.toNat, by have := (reE_zero h0).2.1; omega⟩
    rw [e]
    obtain ⟨b0, -⟩ := h.bcell (k := k) (by have := (reE_zero h0).2.2; omega)
    have HR := Lib.hid (reach_yes h k h0)
    clear h hk e h0
    by_cases hp : page < 0
    · have t0 : decide (page < 0) = true := decide_eq_true hp
      clear hn hp
      go_enter Tryz.func47, Tryz.ntmps47
      go_wp2_with fail
      refine HR.out.mono ?_
      rintro r w' ⟨rfl, rfl⟩
      go_wp2
      go_ret2
      exact ⟨rfl, rfl⟩
    · have t0 : decide (page < 0) = false := decide_eq_false hp
      have t1 : decide ((c.np : Int) ≤ page) = true := decide_eq_true (by omega)
      clear hn hp
      go_enter Tryz.func47, Tryz.ntmps47
      go_wp2_with fail
      refine HR.out.mono ?_
      rintro r w' ⟨rfl, rfl⟩
      go_wp2
      go_ret2
      exact ⟨rfl, rfl⟩
  · have e : rpE c k page = reE c k := by unfold rpE; rw [if_neg h0]
    rw [e]
    have HR := Lib.hid (reach_no h k h0)
    generalize reE c k = x at HR h0 ⊢
    have t0 : (x != 0) = true := bne_iff_ne.2 h0
    clear h hk e h0
    go_enter Tryz.func47, Tryz.ntmps47
    go_wp2_with fail
    refine HR.out.mono ?_
    rintro r w' ⟨rfl, rfl⟩
    go_wp2
    go_ret2
    exact ⟨rfl, rfl⟩
set_option maxRecDepth 100000 in
theorem reachPage_yes {w : World} {X : Nat → Prop} {o : Own} {c : Ch} (h : ChAt w X o c) (k page : Nat) (hk : rpE c k page = 0) :
    Calls Tryz.prog 47 #[o.p, .int .i64 k, .int .i64 page] w fun e w' => e = .returned (.tuple #[o.q k, .int .i64 0]) ∧ w = w' := by
  obtain ⟨h0, -, h1⟩ := rpE_zero hk
  obtain ⟨b0, -⟩ := h.bcell (k := k) (by have := (reE_zero h0).2.2; omega)
  have HR := Lib.hid (reach_yes h k h0)
  have t0 : decide ((page : Int) < 0) = false := decide_eq_false (by omega)
  have t1 : decide (c.np ≤ page) = false := decide_eq_false (by omega)
  clear h hk h0 h1
  go_enter Tryz.func47, Tryz.ntmps47
  go_wp2_with fail
  refine HR.out.mono ?_
  rintro r w' ⟨rfl, rfl⟩
  go_wp2
  go_ret2
  exact ⟨rfl, rfl⟩
set_option maxRecDepth 100000 in
theorem wear_any {w : World} {X : Nat → Prop} {o : Own} {c : Ch} (h : ChAt w X o c) (k : Nat) (hk : k < c.nb) :
    Calls Tryz.prog 111 #[o.p, .int .i64 k] w fun e w' => e = .returned (.int .i64 (c.wear k)) ∧ w = w' := by
  obtain ⟨-, -, -, b3⟩ := h.bcell hk
  have HB := Lib.hid (block_yes h k hk)
  clear h hk
  go_enter Tryz.func111, Tryz.ntmps111
  go_wp2_with fail
  refine HB.out.mono ?_
  rintro r w' ⟨rfl, rfl⟩
  go_wp2
  go_ret
  exact ⟨rfl, rfl⟩
set_option maxRecDepth 100000 in
theorem bad_any {w : World} {X : Nat → Prop} {o : Own} {c : Ch} (h : ChAt w X o c) (k : Nat) (hk : k < c.nb) :
    Calls Tryz.prog 56 #[o.p, .int .i64 k] w fun e w' => e = .returned (.bool (c.bad k)) ∧ w = w' := by
  obtain ⟨-, -, b2, -⟩ := h.bcell hk
  have HB := Lib.hid (block_yes h k hk)
  clear h hk
  go_enter Tryz.func56, Tryz.ntmps56
  go_wp2_with fail
  refine HB.out.mono ?_
  rintro r w' ⟨rfl, rfl⟩
  go_wp2
  go_ret
  exact ⟨rfl, rfl⟩
end Go.Proofs.YtbfifppdcmimaaaGreat

/-
  Rows of bytes that a chip's calls make: one byte over and over, what is torn, a copy. Nothing of one statement alone stands here.
-/
namespace Go.Proofs.YtbfifppdcmimaaaGreat
open Go.RowKit Crcm Go.ChangeShapes

/-- make: a new block that is known whole -/
theorem wpList_make_blk {P : Program} (w : World) {ops : Array Oper} {rest : List Oper} {o : Oper} {a : Act} {Q : Exit → Act → World → Prop}
    (hg : o.guard = none) (l c : Operand) (t : TypeId) (hop : o.op = Op.makeSlice t l c)
    (e : TypeId) (i : TypeInfo) (z : Value) (size : Nat) (h1 : P.underlying t = some (.slice e)) (h2 : P.info? e = some i) (h3 : i.zero = some z) (h4 : i.size = size)
    (kl kc : IntKind) (L C : Int) (n : Nat) (hl : a.eval l = .int kl L) (hc : a.eval c = .int kc C) (hL : L = (n : Int)) (hC : C = (n : Int)) (b2 : i.bytes * n ≤ 281474976710656) (b3 : n ≤ maxLen)
    (hK : ∀ w', Hid (Blk w' w.heap.size e (madeCells z.cells (n * size))) → Hid (Below w.heap.size w w') → Hid (w'.heap.size = w.heap.size + 1) → wpList P ops Q rest (a.put o.dst (.slice (some ⟨w.heap.size, 0, none⟩) n n)) w') :
    wpList P ops Q (o :: rest) a w := by
  refine wpList_plain hg fun K hK' => ?_
  subst hL hC h4
  have hb' : (i.bytes : Int) * (n : Int) ≤ 281474976710656 := by
    have h : ((i.bytes * n : Nat) : Int) ≤ 281474976710656 := by omega
    rwa [Int.natCast_mul] at h
  have h63 : (n : Int) ≤ 9223372036854775807 := by unfold maxLen at b3; omega
  have hrun := run_make (P := P) w t e i z h1 h2 h3 kl kc n n (by omega) (Int.le_refl _) hb' h63
  simp only [Int.toNat_natCast] at hrun
  unfold Oper.wp
  simp [execOp, hop, hl, hc, hrun, Result.andThen]
  exact hK' _ _ (hK _ (Lib.hid (Blk.new w e _)) (Lib.hid ((Below.refl _ _).alloc (Nat.le_refl _) _)) (Lib.hid (by simp)))
theorem made_get {z : Value} {n j : Nat} (h : j < n) : (madeCells #[z] n)[j]? = some z := by
  rw [← Array.getElem?_toList, toList_madeCells_one, List.getElem?_replicate, if_pos h]

/-- a block of one byte over and over, as far as k -/
def Fil (n : Nat) (x : Int) (k : Nat) (cs : Array Value) : Prop := cs.size = n ∧ (∀ j, j < k → cs[j]? = some (.int .u8 x)) ∧ ∀ j, j < n → ∃ y, cs[j]? = some (.int .u8 y)
theorem Fil.next {n k : Nat} {x : Int} {cs : Array Value} (h : Fil n x k cs) (hk : k < n) : Fil n x (k + 1) (cs.setIfInBounds k (.int .u8 x)) := by
  obtain ⟨h1, h2, h3⟩ := h
  refine ⟨by simp [h1], fun j hj => ?_, fun j hj => ?_⟩
  · rw [Array.getElem?_setIfInBounds]
    by_cases e : k = j
    · rw [if_pos e, if_pos (by omega)]
    · rw [if_neg e]; exact h2 j (by omega)
  · rw [Array.getElem?_setIfInBounds]
    by_cases e : k = j
    · rw [if_pos e, if_pos (by omega)]; exact ⟨x, rfl⟩
    · rw [if_neg e]; exact h3 j hj

set_option maxRecDepth 100000 in
set_option maxHeartbeats 1000000 in
theorem filled_any (n : Nat) (x : Int) (w : World) (hn : n ≤ 100000) (_hx : U8 x) :
    Calls Tryz.prog 48 #[.int .i64 n, .int .u8 x] w fun e w' => e = .returned (.slice (some ⟨w.heap.size, 0, none⟩) n n) ∧ (∃ cs, Blk w' w.heap.size 5 cs ∧ Fil n x n cs) ∧ Below w.heap.size w w' := by
  obtain ⟨i0, hi, hz0, hz1, hz2⟩ := info_parts Tryz.info8
  have n9 : n ≤ 9223372036854775807 := by omega
  have HN := Lib.hid hn
  clear hn
  go_enter Tryz.func48, Tryz.ntmps48
  go_wp2_with (at_make; refine wpList_make_blk _ rfl _ _ 23 rfl 5 i0 (.int .u8 0) 1 Tryz.underlying23 hi hz0 hz1 .i64 .i64 _ _ n rfl rfl rfl rfl (by have := HN.out; rw [hz2]; omega) (by have := HN.out; unfold maxLen; omega) ?_)
  intro w1 hBk hB hS
  have HF0 : Hid (∃ cs, Blk w1 w.heap.size 5 cs ∧ Fil n x 0 cs) := Lib.hid ⟨_, hBk.out, by
    have hm : (i0.zero.map (fun z => z)) = some (.int .u8 0) := by rw [hz0]; rfl
    refine ⟨size_madeCells _ _ |>.trans (by omega), fun j hj => absurd hj (Nat.not_lt_zero _), fun j hj => ⟨0, ?_⟩⟩
    exact made_get (by omega)⟩
  clear hBk hS hi hz0 hz1 hz2
  generalize hg : w.heap.size = g at HF0
  have HG := Lib.hid hg
  clear hg
  go_wp2_with fail
  go_loopw [6, 11] (fun _ i wr => ∃ k : Nat, k ≤ n ∧ i = .int .i64 k ∧ Hid (∃ cs, Blk wr g 5 cs ∧ Fil n x k cs) ∧ Hid (Below w.heap.size w wr)) (fun _ i _ => n - (intOf i).toNat)
  case atStart => exact ⟨0, by omega, rfl, HF0, hB⟩
  case round =>
    obtain ⟨k, hk, rfl, hF, hbel⟩ := hrel
    by_cases hlt : k < n
    · obtain ⟨cs, hb, hf⟩ := hF.out
      obtain ⟨y, hy⟩ := hf.2.2 k hlt
      have c0 := (hb.cell k).trans hy
      have f0 := hb.frozen k
      have HB := Lib.hid hb
      have HFn := Lib.hid (hf.next hlt)
      have kl : (k : Int) < (n : Int) := by omega
      clear hb hf hy hF
      go_wp2
      go_roundw
      case rel => exact ⟨k + 1, by omega, by go_num, Lib.hid ⟨_, HB.out.put k _, HFn.out⟩, Lib.hid (hbel.out.setCell (p := ⟨g, k, none⟩) (by show w.heap.size ≤ g; have := HG.out; omega) _)⟩
      case measure => simp [intOf]; omega
    · have hkn : k = n := by omega
      subst hkn
      go_wp2
      go_ret
      exact ⟨by rw [HG.out]; rfl, by rw [HG.out]; exact hF.out, hbel.out⟩

/-- a block of bytes that is known whole -/
def RB (w : World) (g : Nat) (l : List Int) : Prop := Blk w g 5 (l.map (Value.int .u8)).toArray
theorem RB.rw {w : World} {g : Nat} {l : List Int} (h : RB w g l) (hu : ∀ x ∈ l, U8 x) (hl : l.length ≤ maxLen) : Rw w (some ⟨g, 0, none⟩) l := by
  refine ⟨hu, hl, .inr ⟨g, 0, rfl, fun i hi => ?_⟩⟩
  have := Blk.cell h i
  rw [Nat.zero_add, this]
  simp [List.getD_eq_getElem?_getD, hi]
theorem Fil.rb {w : World} {g n : Nat} {x : Int} {cs : Array Value} (hb : Blk w g 5 cs) (h : Fil n x n cs) : RB w g (List.replicate n x) := by
  have e : cs = ((List.replicate n x).map (Value.int .u8)).toArray := by
    apply Array.ext
    · simp [h.1]
    · intro j h1 h2
      have := h.2.1 j (by rw [← h.1]; exact h1)
      rw [Array.getElem?_eq_getElem h1] at this
      injection this with this
      rw [this]
      simp
  unfold RB
  rw [← e]
  exact hb
/-- so many bytes 255, bytes laid over the first ones -/
def tornL (n : Nat) (l : List Int) : List Int := l.take n ++ List.replicate (n - l.length) 255
theorem tornL_len (n : Nat) (l : List Int) : (tornL n l).length = n := by simp [tornL]; omega
theorem tornL_u8 {n : Nat} {l : List Int} (h : ∀ x ∈ l, U8 x) : ∀ x ∈ tornL n l, U8 x := fun x hx => by
  rcases List.mem_append.1 hx with g | g
  · exact h x (List.mem_of_mem_take g)
  · rw [(List.mem_replicate.1 g).2]; unfold U8; omega
theorem splice_torn (n : Nat) (l : List Int) : ((List.replicate n (255 : Int)).map (Value.int .u8)).toArray.toList.take 0 ++ (l.take n).map (Value.int .u8) ++ ((List.replicate n (255 : Int)).map (Value.int .u8)).toArray.toList.drop (0 + ((l.take n).map (Value.int .u8)).length) = (tornL n l).map (Value.int .u8) := by
  simp only [tornL, List.take_zero, List.nil_append, List.map_append, List.length_map, List.length_take, Nat.zero_add, List.map_replicate, List.drop_replicate]
  congr 2
  omega
theorem run_torn (w : World) (g n m c : Nat) (a : Option Addr) (l : List Int) (hg : RB w g (List.replicate n 255)) (hr : Rw w a l) (hl : l.length = m) :
    ∃ w' k, (∀ ty, (Builtin.copy_ #[23, 23] ty #[.slice (some ⟨g, 0, none⟩) n n, .slice a m c]).run Tryz.prog w = .ok (.int .i64 k) w') ∧ RB w' g (tornL n l) ∧ ∀ B w0, Below B w0 w → B ≤ g → Below B w0 w' := by
  obtain ⟨i0, hi, hz0, hz1, hz2⟩ := info_parts Tryz.info8
  have HI : (Tryz.prog.info? 5).map (·.size) = some 1 := by rw [hi]; simp [hz1]
  by_cases h0 : Nat.min m n = 0
  · refine ⟨w, 0, fun ty => run_copy_none (P := Tryz.prog) w 23 23 ty 5 (some ⟨g, 0, none⟩) a n n m c Tryz.underlying23 HI h0, ?_, fun _ _ h _ => h⟩
    have e : tornL n l = List.replicate n 255 := by
      unfold tornL
      rcases Nat.eq_zero_or_pos n with rfl | hn
      · simp
      · have : m = 0 := by
          rcases Nat.le_total m n with g | g
          · rw [show Nat.min m n = m from Nat.min_eq_left g] at h0; exact h0
          · rw [show Nat.min m n = n from Nat.min_eq_right g] at h0; omega
        have : l = [] := List.eq_nil_of_length_eq_zero (by omega)
        subst this
        simp
    rw [e]
    exact hg
  · obtain ⟨b, off, rfl, hc⟩ : ∃ b off, a = some ⟨b, off, none⟩ ∧ ∀ i, i < l.length → w.cell? ⟨b, off + i, none⟩ = some (.int .u8 (l.getD i 0)) := by
      rcases hr.2.2 with h | h
      · exfalso; apply h0; subst h; simp at hl; subst hl; exact Nat.zero_min n
      · exact h
    refine ⟨_, _, fun ty => run_copy_row (P := Tryz.prog) w 23 23 ty 5 g 0 n n ⟨b, off, none⟩ m c _ 5 ((l.take n).map (Value.int .u8)) Tryz.underlying23 HI hg ?_ ?_ ?_ ?_, ?_, ?_⟩
    · rw [List.length_map, List.length_take, hl]; exact Nat.min_comm n m
    · intro j v hv
      rw [List.getElem?_map, List.getElem?_take] at hv
      by_cases hj : j < n
      · rw [if_pos hj] at hv
        by_cases hjl : j < l.length
        · rw [List.getElem?_eq_getElem hjl] at hv
          have := hc j hjl
          rw [show (⟨b, off, none⟩ : Addr).add j = ⟨b, off + j, none⟩ by simp [Addr.add], this]
          simpa [List.getD_eq_getElem?_getD, hjl] using hv
        · rw [List.getElem?_eq_none (by omega)] at hv; cases hv
      · rw [if_neg hj] at hv; cases hv
    · simp; omega
    · intro v hv
      obtain ⟨x, -, rfl⟩ := List.mem_map.1 hv
      rfl
    · unfold RB
      rw [← splice_torn]
      exact setRow_heap w g _ _ _ _ hg
    · exact fun B w0 h hB => below_setRow h hB _

set_option maxRecDepth 100000 in
set_option maxHeartbeats 1000000 in
theorem torn_any (n m c : Nat) (a : Option Addr) (l : List Int) (w : World) (hn : n ≤ 100000) (hr : Rw w a l) (hl : l.length = m) :
    Calls Tryz.prog 156 #[.int .i64 n, .slice a m c] w fun e w' => e = .returned (.slice (some ⟨w.heap.size, 0, none⟩) n n) ∧ RB w' w.heap.size (tornL n l) ∧ Below w.heap.size w w' := by
  have HF := Lib.hid (filled_any n 255 w hn (by unfold U8; omega))
  have HL := Lib.hid hl
  have HR := Lib.hid hr
  clear hl hr
  go_enter Tryz.func156, Tryz.ntmps156
  go_wp2_with fail
  refine HF.out.mono ?_
  rintro r w1 ⟨rfl, ⟨cs, hb, hf⟩, hB⟩
  have HRB := Lib.hid (Fil.rb hb hf)
  have HB := Lib.hid hB
  have HR1 := Lib.hid (HR.out.below hB)
  clear hb hf hB
  generalize hg : w.heap.size = g at HRB
  have HG := Lib.hid hg
  clear hg
  obtain ⟨w2, k, hrun, hrb, hbel⟩ := run_torn w1 g n m c a l HRB.out HR1.out HL.out
  have HRB2 := Lib.hid hrb
  have HB2 := Lib.hid (hbel _ _ HB.out (by have := HG.out; omega))
  clear hrb hbel
  go_wp2
  go_ret
  exact ⟨by rw [HG.out]; rfl, by rw [HG.out]; exact HRB2.out, HB2.out⟩

set_option maxRecDepth 100000 in
set_option maxHeartbeats 1000000 in
/-- a copy of bytes that lie somewhere -/
theorem clone_any (n c b off : Nat) (l : List Int) (w : World) (hr : Rw w (some ⟨b, off, none⟩) l) (hl : l.length = n) (hn : 0 < n ∧ n ≤ 100000) :
    Calls Tryz.prog 22 #[.slice (some ⟨b, off, none⟩) n c] w fun e w' => (∃ g cc, e = .returned (.slice (some ⟨g, 0, none⟩) n cc) ∧ n ≤ cc ∧ w.heap.size ≤ g ∧ Rw w' (some ⟨g, 0, none⟩) l) ∧ Below w.heap.size w w' := by
  have HL := Lib.hid hl
  have HR := Lib.hid hr
  have HN := Lib.hid hn
  have en := fun W a n c => Lib.run_eql_slice_nil (P := Tryz.prog) W 23 5 a n c 0 0 Tryz.underlying23
  clear hl hr hn
  go_enter Tryz.func22, Tryz.ntmps22
  have hown : Hid ((w.alloc (.cells #[] 5)).ownsRow w.heap.size 5 1 (.slice (some ⟨w.heap.size, 0, none⟩) 0 0) 0 (([] : List Int).map (Value.int .u8))) := Lib.hid (World.ownsRow_lit w #[] 0 (Nat.le_refl _) (Nat.zero_le _) rfl)
  have hbx : Below w.heap.size w (w.alloc (.cells #[] 5)) := (Below.refl _ _).alloc (Nat.le_refl _) _
  have HBX := Lib.hid hbx
  have hsrc := Lib.hid (HR.out.src.below hbx)
  clear hbx
  go_wp2_with (at_builtin; refine append_bytes rfl _ _ rfl w.heap.size _ 0 [] rfl hown.out (some ⟨b, off, none⟩) n c l rfl HL.out hsrc.out (by have := HN.out; omega) (by simp) ?_)
  intro v' w2 hown2 hb2
  have HB2 := Lib.hid (HBX.out.trans hb2)
  obtain ⟨a2, cap2, rfl, hrw, hlen, hcap⟩ := Rw.of_own hown2 HR.out.1
  have HW := Lib.hid hown2
  have HR2 := Lib.hid hrw
  clear hown2 hb2 hrw hlen
  go_wp2
  go_ret
  refine ⟨?_, HB2.out⟩
  rcases HW.out.2 with ⟨h0, hn⟩ | ⟨g, cap, cur, h0, hg, _⟩
  · have := HN.out; omega
  · injection h0 with e1 e2 e3
    subst e1 e3
    exact ⟨g, cap2, rfl, hcap, hg, HR2.out⟩
end Go.Proofs.YtbfifppdcmimaaaGreat

/-
  A chip behind a store: what of it has turned. Nothing of one statement alone stands here.
-/
namespace Go.Proofs.YtbfifppdcmimaaaGreat
open Go.RowKit Crcm Go.ChangeShapes

/-- a function that is turned at one place -/
def up1 {α : Type} (f : Nat → α) (k : Nat) (x : α) : Nat → α := fun j => if j = k then x else f j
theorem up1_at {α : Type} (f : Nat → α) (k : Nat) (x : α) : up1 f k x k = x := if_pos rfl
theorem up1_ne {α : Type} (f : Nat → α) {k j : Nat} (x : α) (h : j ≠ k) : up1 f k x j = f j := if_neg h
/-- pages that are turned at one place -/
def up2 {α : Type} (f : Nat → Nat → α) (k i : Nat) (x : α) : Nat → Nat → α := up1 f k (up1 (f k) i x)

theorem Kp.one (w : World) (p : Addr) (v : Value) : Kp (fun b => b = p.block) w (w.setCell p v) := Kp.setCell (F := fun b => b = p.block) (Kp.refl _ _) (.inl rfl) _

/-- a store into the chip's own block -/
theorem ChAt.put {w : World} {X : Nat → Prop} {o : Own} {c : Ch} (h : ChAt w X o c) (i : Nat) (v : Value) (c' : Ch)
    (hs : c'.nb = c.nb ∧ c'.np = c.np ∧ c'.sz = c.sz ∧ c'.pg = c.pg ∧ c'.broken = c.broken ∧ c'.bad = c.bad ∧ c'.wear = c.wear)
    (hv : ∀ fv, FlAt w X fv c.fl → ∃ fv', (chV o c fv).setIfInBounds i v = chV o c' fv' ∧ FlAt w X fv' c'.fl) : ChAt (w.setCell ⟨o.bc, i, none⟩ v) X o c' := by
  obtain ⟨e1, e2, e3, e4, e5, e6, e7⟩ := hs
  have hk := Kp.one w ⟨o.bc, i, none⟩ v
  have hX : X o.bc := h.inX _ (.inl rfl)
  have hf : ∀ b, b = o.bc → X b := fun b e => e ▸ hX
  refine ⟨by rw [e1, e2, e3]; exact h.good, fun b hb => Nat.lt_of_lt_of_le (h.old b hb) hk.size, by rw [e1]; exact h.inX, h.neb, by rw [e1]; exact h.nep, by rw [e1]; exact h.inj, ?_, ?_, ?_⟩
  · obtain ⟨fv, h1, h2⟩ := h.chip
    obtain ⟨fv', g1, g2⟩ := hv fv h2
    refine ⟨fv', ?_, g2.kp hk hf⟩
    have := h1.put i v
    rw [g1] at this
    exact this
  · obtain ⟨cs, h1, h2, h3⟩ := h.blocks
    refine ⟨cs, h1.kp hk (fun e => h.neb e.symm), by rw [e1]; exact h2, ?_⟩
    rw [e1, e2, e5, e6, e7]
    exact h3
  · rw [e1]
    intro k hkn
    obtain ⟨cs, h1, h2, h3⟩ := h.pages k hkn
    refine ⟨cs, h1.kp hk (fun e => (h.nep k hkn).1 e), by rw [e2]; exact h2, ?_⟩
    rw [e2, e3, e4]
    intro j hj
    obtain ⟨u, g1, g2⟩ := h3 j hj
    exact ⟨u, g1, g2.kp hk hf⟩
theorem ChAt.putUp {w : World} {X : Nat → Prop} {o : Own} {c : Ch} (h : ChAt w X o c) (u : Bool) : ChAt (w.setCell ⟨o.bc, 4, none⟩ (.bool u)) X o { c with up := u } :=
  h.put 4 _ _ ⟨rfl, rfl, rfl, rfl, rfl, rfl, rfl⟩ fun fv hf => ⟨fv, by simp [chV], hf⟩
theorem ChAt.putSince {w : World} {X : Nat → Prop} {o : Own} {c : Ch} (h : ChAt w X o c) (u : Int) : ChAt (w.setCell ⟨o.bc, 6, none⟩ (.int .i64 u)) X o { c with since := u } :=
  h.put 6 _ _ ⟨rfl, rfl, rfl, rfl, rfl, rfl, rfl⟩ fun fv hf => ⟨fv, by simp [chV], hf⟩
theorem ChAt.putStrokes {w : World} {X : Nat → Prop} {o : Own} {c : Ch} (h : ChAt w X o c) (u : Int) : ChAt (w.setCell ⟨o.bc, 7, none⟩ (.int .i64 u)) X o { c with strokes := u } :=
  h.put 7 _ _ ⟨rfl, rfl, rfl, rfl, rfl, rfl, rfl⟩ fun fv hf => ⟨fv, by simp [chV], hf⟩
theorem ChAt.putReads {w : World} {X : Nat → Prop} {o : Own} {c : Ch} (h : ChAt w X o c) (u : Int) : ChAt (w.setCell ⟨o.bc, 8, none⟩ (.int .i64 u)) X o { c with reads := u } :=
  h.put 8 _ _ ⟨rfl, rfl, rfl, rfl, rfl, rfl, rfl⟩ fun fv hf => ⟨fv, by simp [chV], hf⟩
theorem ChAt.putFl {w : World} {X : Nat → Prop} {o : Own} {c : Ch} (h : ChAt w X o c) (v : Value) (fl : List Fl) (hf : FlAt w X v fl) : ChAt (w.setCell ⟨o.bc, 5, none⟩ v) X o { c with fl := fl } :=
  h.put 5 _ _ ⟨rfl, rfl, rfl, rfl, rfl, rfl, rfl⟩ fun fv _ => ⟨v, by simp [chV], hf⟩

/-- a store into the row of the chip's blocks -/
theorem ChAt.putB {w : World} {X : Nat → Prop} {o : Own} {c : Ch} (h : ChAt w X o c) (i : Nat) (v : Value) (c' : Ch)
    (hs : c'.nb = c.nb ∧ c'.np = c.np ∧ c'.sz = c.sz ∧ c'.pg = c.pg ∧ c'.up = c.up ∧ c'.fl = c.fl ∧ c'.since = c.since ∧ c'.strokes = c.strokes ∧ c'.reads = c.reads)
    (hv : ∀ cs, BkV o c cs → BkV o c' (cs.setIfInBounds i v)) : ChAt (w.setCell ⟨o.bb, i, none⟩ v) X o c' := by
  obtain ⟨e1, e2, e3, e4, e5, e6, e7, e8, e9⟩ := hs
  have hk := Kp.one w ⟨o.bb, i, none⟩ v
  have hX : X o.bb := h.inX _ (.inr (.inl rfl))
  have hf : ∀ b, b = o.bb → X b := fun b e => e ▸ hX
  refine ⟨by rw [e1, e2, e3]; exact h.good, fun b hb => Nat.lt_of_lt_of_le (h.old b hb) hk.size, by rw [e1]; exact h.inX, h.neb, by rw [e1]; exact h.nep, by rw [e1]; exact h.inj, ?_, ?_, ?_⟩
  · obtain ⟨fv, h1, h2⟩ := h.chip
    refine ⟨fv, ?_, by rw [e6]; exact h2.kp hk hf⟩
    have e : chV o c' fv = chV o c fv := by simp only [chV, e1, e2, e3, e5, e7, e8, e9]
    rw [e]
    exact h1.kp hk h.neb
  · obtain ⟨cs, h1, h2⟩ := h.blocks
    exact ⟨_, h1.put i v, hv cs h2⟩
  · rw [e1]
    intro k hkn
    obtain ⟨cs, h1, h2, h3⟩ := h.pages k hkn
    refine ⟨cs, h1.kp hk (fun e => (h.nep k hkn).2 e), by rw [e2]; exact h2, ?_⟩
    rw [e2, e3, e4]
    intro j hj
    obtain ⟨u, g1, g2⟩ := h3 j hj
    exact ⟨u, g1, g2.kp hk hf⟩
theorem set_ne {cs : Array Value} {i j : Nat} {v : Value} (h : i ≠ j) : (cs.setIfInBounds i v)[j]? = cs[j]? := by rw [Array.getElem?_setIfInBounds, if_neg h]
theorem set_at {cs : Array Value} {i : Nat} {v : Value} (h : i < cs.size) : (cs.setIfInBounds i v)[i]? = some v := by rw [Array.getElem?_setIfInBounds, if_pos rfl, if_pos h]
theorem ChAt.putBroken {w : World} {X : Nat → Prop} {o : Own} {c : Ch} (h : ChAt w X o c) (k : Nat) (hk : k < c.nb) (u : Bool) : ChAt (w.setCell ⟨o.bb, k * 4 + 1, none⟩ (.bool u)) X o { c with broken := up1 c.broken k u } :=
  h.putB _ _ _ ⟨rfl, rfl, rfl, rfl, rfl, rfl, rfl, rfl, rfl⟩ fun cs hc => ⟨by rw [Array.size_setIfInBounds]; exact hc.1, fun j hj => by
    obtain ⟨g0, g1, g2, g3⟩ := hc.2 j hj
    have hz := hc.1
    by_cases e : j = k
    · subst e
      exact ⟨(set_ne (by omega)).trans g0, (set_at (by omega)).trans (by simp only [up1_at]), (set_ne (by omega)).trans g2, (set_ne (by omega)).trans g3⟩
    · exact ⟨(set_ne (by omega)).trans g0, (set_ne (by omega)).trans (by simp only [up1_ne _ _ e]; exact g1), (set_ne (by omega)).trans g2, (set_ne (by omega)).trans g3⟩⟩
theorem ChAt.putBad {w : World} {X : Nat → Prop} {o : Own} {c : Ch} (h : ChAt w X o c) (k : Nat) (hk : k < c.nb) (u : Bool) : ChAt (w.setCell ⟨o.bb, k * 4 + 2, none⟩ (.bool u)) X o { c with bad := up1 c.bad k u } :=
  h.putB _ _ _ ⟨rfl, rfl, rfl, rfl, rfl, rfl, rfl, rfl, rfl⟩ fun cs hc => ⟨by rw [Array.size_setIfInBounds]; exact hc.1, fun j hj => by
    obtain ⟨g0, g1, g2, g3⟩ := hc.2 j hj
    have hz := hc.1
    by_cases e : j = k
    · subst e
      exact ⟨(set_ne (by omega)).trans g0, (set_ne (by omega)).trans g1, (set_at (by omega)).trans (by simp only [up1_at]), (set_ne (by omega)).trans g3⟩
    · exact ⟨(set_ne (by omega)).trans g0, (set_ne (by omega)).trans g1, (set_ne (by omega)).trans (by simp only [up1_ne _ _ e]; exact g2), (set_ne (by omega)).trans g3⟩⟩
theorem ChAt.putWear {w : World} {X : Nat → Prop} {o : Own} {c : Ch} (h : ChAt w X o c) (k : Nat) (hk : k < c.nb) (u : Int) : ChAt (w.setCell ⟨o.bb, k * 4 + 3, none⟩ (.int .i64 u)) X o { c with wear := up1 c.wear k u } :=
  h.putB _ _ _ ⟨rfl, rfl, rfl, rfl, rfl, rfl, rfl, rfl, rfl⟩ fun cs hc => ⟨by rw [Array.size_setIfInBounds]; exact hc.1, fun j hj => by
    obtain ⟨g0, g1, g2, g3⟩ := hc.2 j hj
    have hz := hc.1
    by_cases e : j = k
    · subst e
      exact ⟨(set_ne (by omega)).trans g0, (set_ne (by omega)).trans g1, (set_ne (by omega)).trans g2, (set_at (by omega)).trans (by simp only [up1_at])⟩
    · exact ⟨(set_ne (by omega)).trans g0, (set_ne (by omega)).trans g1, (set_ne (by omega)).trans g2, (set_ne (by omega)).trans (by simp only [up1_ne _ _ e]; exact g3)⟩⟩

/-- a store into the row of a block's pages -/
theorem ChAt.putPg {w : World} {X : Nat → Prop} {o : Own} {c : Ch} (h : ChAt w X o c) (k i : Nat) (hk : k < c.nb) (hi : i < c.np) (v : Value) (p : Option (List Int)) (hp : PgAt w X v (c.sz + 32) p) :
    ChAt (w.setCell ⟨o.pb k, i, none⟩ v) X o { c with pg := up2 c.pg k i p } := by
  have hkp := Kp.one w ⟨o.pb k, i, none⟩ v
  have hX : X (o.pb k) := h.inX _ (.inr (.inr ⟨k, hk, rfl⟩))
  have hf : ∀ b, b = o.pb k → X b := fun b e => e ▸ hX
  refine ⟨h.good, fun b hb => Nat.lt_of_lt_of_le (h.old b hb) hkp.size, h.inX, h.neb, h.nep, h.inj, ?_, ?_, ?_⟩
  · obtain ⟨fv, h1, h2⟩ := h.chip
    exact ⟨fv, h1.kp hkp (fun e => (h.nep k hk).1 e.symm), h2.kp hkp hf⟩
  · obtain ⟨cs, h1, h2⟩ := h.blocks
    exact ⟨cs, h1.kp hkp (fun e => (h.nep k hk).2 e.symm), h2⟩
  · intro j hj
    obtain ⟨cs, h1, h2, h3⟩ := h.pages j hj
    by_cases e : j = k
    · subst e
      refine ⟨_, h1.put i v, by rw [Array.size_setIfInBounds]; exact h2, fun n hn => ?_⟩
      show ∃ v', _ ∧ PgAt _ _ _ _ (up2 c.pg j i p j n)
      have eu : up2 c.pg j i p j = up1 (c.pg j) i p := up1_at _ _ _
      rw [eu]
      by_cases en : n = i
      · subst en
        rw [up1_at]
        exact ⟨v, set_at (by rw [h2]; exact hn), hp.kp hkp hf⟩
      · rw [up1_ne _ _ en, set_ne (fun g => en g.symm)]
        obtain ⟨u, g1, g2⟩ := h3 n hn
        exact ⟨u, g1, g2.kp hkp hf⟩
    · refine ⟨cs, h1.kp hkp (fun g => e (h.inj _ _ hj hk g)), h2, fun n hn => ?_⟩
      show ∃ v', _ ∧ PgAt _ _ _ _ (up2 c.pg k i p j n)
      have eu : up2 c.pg k i p j = c.pg j := up1_ne _ _ e
      rw [eu]
      obtain ⟨u, g1, g2⟩ := h3 n hn
      exact ⟨u, g1, g2.kp hkp hf⟩
end Go.Proofs.YtbfifppdcmimaaaGreat

/-
  A stroke of a chip: the next page of a block, the fault that belongs to a stroke, how it ends. Nothing of one statement alone stands here.
-/
namespace Go.Proofs.YtbfifppdcmimaaaGreat
open Go.RowKit Crcm Go.ChangeShapes

/-- the first page behind all that are programmed -/
def nx (f : Nat → Option (List Int)) : Nat → Nat
  | 0 => 0
  | n + 1 => if (f n).isSome then n + 1 else nx f n

set_option maxRecDepth 100000 in
set_option maxHeartbeats 1000000 in
theorem pnext_any {w : World} {X : Nat → Prop} {o : Own} {c : Ch} (h : ChAt w X o c) (k : Nat) (hk : k < c.nb) :
    Calls Tryz.prog 155 #[o.q k] w fun e w' => e = .returned (.int .i64 (nx (c.pg k) c.np : Nat)) ∧ w = w' := by
  obtain ⟨b0, -⟩ := h.bcell hk
  have en := fun W a n c => Lib.run_eql_slice_nil (P := Tryz.prog) W 23 5 a n c 0 0 Tryz.underlying23
  have HP := Lib.hid (fun i hi => h.pcell (k := k) (i := i) hk hi)
  have hg := h.good
  unfold Gd at hg
  have np1 : c.np ≤ 40 := by omega
  clear h hk hg
  go_enter Tryz.func155, Tryz.ntmps155
  go_wp2_with fail
  go_loop [3] (fun i => ∃ j : Nat, j ≤ c.np ∧ i = .int .i64 j ∧ Hid (nx (c.pg k) c.np = nx (c.pg k) j)) (fun i => (intOf i).toNat)
  case atStart => exact ⟨c.np, Nat.le_refl _, rfl, Lib.hid rfl⟩
  case round =>
    obtain ⟨j, hj, rfl, hN⟩ := hrel
    cases j with
    | zero =>
      go_wp2
      go_ret
      exact ⟨by rw [hN.out]; rfl, rfl⟩
    | succ j =>
      obtain ⟨v, c0, hp⟩ := HP.out j (by omega)
      have t0 : decide ((0 : Int) < ((j + 1 : Nat) : Int)) = true := decide_eq_true (by omega)
      have s1 : (((j + 1 : Nat) : Int) - 1) = (j : Int) := by omega
      have j0 : (0 : Int) ≤ (j : Int) := by omega
      have j1 : (j : Int) < (c.np : Int) := by omega
      have HX : Hid (nx (c.pg k) (j + 1) = if (c.pg k j).isSome then j + 1 else nx (c.pg k) j) := Lib.hid rfl
      cases hc : c.pg k j with
      | none =>
        rw [hc] at hp HX
        have hp : v = .slice none 0 0 := hp
        subst hp
        have HX' := Lib.hid (hN.out.trans HX.out)
        clear HX hc
        go_wp2
        go_round
        case rel => exact ⟨j, by omega, rfl, HX'⟩
        case measure => simp [intOf]
      | some l =>
        rw [hc] at hp HX
        obtain ⟨b, off, cc, rfl, -, -, -⟩ := hp
        have HX' := Lib.hid (hN.out.trans HX.out)
        clear HX hc
        go_wp2
        go_ret
        exact ⟨by rw [HX'.out]; rfl, rfl⟩

/-- how a stroke ends: the answer, and whether the power stays -/
def endE (kind : Int) : Int := if kind = 1 ∨ kind = 2 then 4 else if kind = 3 then 11 else 0
def endC (kind : Int) (c : Ch) : Ch := if kind = 1 ∨ kind = 2 then { c with up := false } else c

set_option maxRecDepth 100000 in
set_option maxHeartbeats 1000000 in
theorem end_any {w : World} {X : Nat → Prop} {o : Own} {c : Ch} (h : ChAt w X o c) (kind : Int) :
    Calls Tryz.prog 80 #[o.p, .int .i64 kind] w fun e w' => e = .returned (.int .i64 (endE kind)) ∧ ChAt w' X o (endC kind c) ∧ Kp (o.F c.nb) w w' := by
  obtain ⟨-, -, -, -, c4, -⟩ := h.cell
  have f4 := h.froz 4
  have H := Lib.hid h
  clear h
  by_cases h1 : kind = 1
  · subst h1
    go_enter Tryz.func80, Tryz.ntmps80
    go_wp2
    go_ret
    exact ⟨rfl, H.out.putUp false, (Kp.refl _ _).setCell (.inl (.inl rfl)) _⟩
  by_cases h2 : kind = 2
  · subst h2
    clear h1
    go_enter Tryz.func80, Tryz.ntmps80
    go_wp2
    go_ret
    exact ⟨rfl, H.out.putUp false, (Kp.refl _ _).setCell (.inl (.inl rfl)) _⟩
  have e12 : endC kind c = c := by unfold endC; rw [if_neg (by omega)]
  by_cases h3 : kind = 3
  · subst h3
    clear h1 h2
    go_enter Tryz.func80, Tryz.ntmps80
    go_wp2
    go_ret
    exact ⟨rfl, by rw [e12]; exact H.out, Kp.refl _ _⟩
  have e0 : endE kind = 0 := by unfold endE; rw [if_neg (by omega), if_neg h3]
  rw [e12, e0]
  have t1 : (kind == 1) = false := beq_eq_false_iff_ne.2 h1
  have t2 : (kind == 2) = false := beq_eq_false_iff_ne.2 h2
  have t3 : (kind == 3) = false := beq_eq_false_iff_ne.2 h3
  clear h1 h2 h3 e12 e0
  go_enter Tryz.func80, Tryz.ntmps80
  go_wp2
  go_ret
  exact ⟨rfl, H.out, Kp.refl _ _⟩

/-- the fault of a stroke: one of no kind, if none belongs to it -/
def fnd (fl : List Fl) (n : Int) : Fl := (fl.find? fun f => f.at' == n).getD ⟨0, 0, []⟩
theorem fnd_at {fl : List Fl} {n : Int} {k : Nat} (hk : k < fl.length) (h : ∀ j (hj : j < fl.length), j < k → fl[j].at' ≠ n) : fl[k].at' = n → fnd fl n = fl[k] := fun he => by
  unfold fnd
  have : fl.find? (fun f => f.at' == n) = some fl[k] := by
    rw [List.find?_eq_some_iff_getElem]
    refine ⟨by rw [beq_iff_eq]; exact he, k, hk, rfl, fun j hj => ?_⟩
    rw [Bool.not_eq_true', beq_eq_false_iff_ne]
    exact h j (by omega) hj
  rw [this]
  rfl
theorem fnd_none {fl : List Fl} {n : Int} (h : ∀ j (hj : j < fl.length), j < fl.length → fl[j].at' ≠ n) : fnd fl n = ⟨0, 0, []⟩ := by
  unfold fnd
  have : fl.find? (fun f => f.at' == n) = none := by
    rw [List.find?_eq_none]
    intro f hf
    obtain ⟨j, hj, rfl⟩ := List.mem_iff_getElem.1 hf
    rw [beq_iff_eq]
    exact h j hj hj
  rw [this]
  rfl
/-- a chip behind a stroke's beginning -/
def stC (c : Ch) : Ch := { c with since := wrap64 (c.since + 1), strokes := wrap64 (c.strokes + 1) }

theorem stroke_fin {W2 wr WF : World} {X : Nat → Prop} {o : Own} {c : Ch} {g g2 : Nat} (h : ChAt W2 (fun b => X b ∨ b = g ∨ b = g2) o c) (hb : Below W2.heap.size W2 wr) (hk : Kp (fun b => b = g ∨ b = g2) wr WF)
    (hX : ∀ b, X b → b < g) (hg : g < g2) (hF : ∀ b, o.F c.nb b → X b) : ChAt WF X o c := by
  have h1 := (h.below hb).kp hk (fun _ hb => .inr hb) (fun b hb e => by have := hX b (hF b hb); omega)
  exact h1.narrow (fun _ hb => .inl hb) hF
theorem stroke_row {W2 wr WF : World} {X : Nat → Prop} {a : Option Addr} {l : List Int} {g g2 : Nat} (h : RwX W2 (fun b => X b ∨ b = g ∨ b = g2) a l) (hb : Below W2.heap.size W2 wr) (hk : Kp (fun b => b = g ∨ b = g2) wr WF) : RwX WF X a l :=
  ((h.kp (F := fun _ => False) (Kp.of_below hb) (fun _ g => g.elim)).kp hk (fun _ hb => .inr hb)).narrow (fun _ hb => .inl hb)

theorem Blk.put3 {w : World} {g : Nat} {t : TypeId} {x y z a b c : Value} (h : Blk w g t #[x, y, z]) : Blk (((w.setCell ⟨g, 0, none⟩ a).setCell ⟨g, 1, none⟩ b).setCell ⟨g, 2, none⟩ c) g t #[a, b, c] := by
  have := ((h.put 0 a).put 1 b).put 2 c
  simpa using this
theorem stroke_done {WF : World} {tm : Array Value} {g : Nat} {x y z : Value} {Q : Ending → World → Prop} (hb : Blk WF g 139 #[x, y, z]) (ht : tm[2]?.getD undef = .pointer (some ⟨g, 0, none⟩)) (hq : Q (.returned (.agg #[x, y, z])) WF) :
    bodyPost Tryz.prog Tryz.f77 Q Exit.ret ⟨tm, []⟩ WF := by
  have c0 : WF.cell? ⟨g, 0, none⟩ = some x := hb.cell 0
  have c1 : WF.cell? ⟨g, 1, none⟩ = some y := hb.cell 1
  have c2 : WF.cell? ⟨g, 2, none⟩ = some z := hb.cell 2
  exact bodyPost_ret (v := .agg #[x, y, z]) (by simp [results, Tryz.results77, go_sem, ht, c0, c1, c2]) rfl hq

/-- what a call of stroke comes to -/
def StP (w : World) (X : Nat → Prop) (o : Own) (c : Ch) (e : Ending) (w' : World) : Prop :=
  (∃ da dc, e = .returned (.agg #[.int .i64 (fnd c.fl c.since).at', .int .i64 (fnd c.fl c.since).kind, .slice da (fnd c.fl c.since).data.length dc]) ∧
      RwX w' X da (fnd c.fl c.since).data ∧ (fnd c.fl c.since).data.length ≤ dc) ∧ ChAt w' X o (stC c) ∧ Kp (o.F c.nb) w w'
theorem stroke_last {w W2 wr WF : World} {X : Nat → Prop} {o : Own} {c : Ch} {g g2 : Nat} {f : Fl} {da : Option Addr} {dc : Nat} {tm : Array Value} (h2 : ChAt W2 (fun b => X b ∨ b = g ∨ b = g2) o (stC c)) (hbel : Below W2.heap.size W2 wr)
    (hX : ∀ b, X b → b < g) (hg : g < g2) (hF : ∀ b, o.F c.nb b → X b) (hf : fnd c.fl c.since = f) (hr : RwX W2 (fun b => X b ∨ b = g ∨ b = g2) da f.data) (hd : f.data.length ≤ dc)
    (ht : tm[2]?.getD undef = .pointer (some ⟨g, 0, none⟩)) (hb : Blk WF g 139 #[.int .i64 f.at', .int .i64 f.kind, .slice da f.data.length dc]) (hk : Kp (fun b => b = g ∨ b = g2) wr WF) (hk2 : Kp (o.F c.nb) w WF) :
    bodyPost Tryz.prog Tryz.f77 (StP w X o c) Exit.ret ⟨tm, []⟩ WF := by
  refine stroke_done hb ht ?_
  unfold StP
  rw [hf]
  exact ⟨⟨da, dc, rfl, stroke_row hr hbel hk, hd⟩, stroke_fin h2 hbel hk hX hg hF, hk2⟩

set_option maxRecDepth 100000 in
set_option maxHeartbeats 1000000 in
theorem stroke_any {w : World} {X : Nat → Prop} {o : Own} {c : Ch} (h : ChAt w X o c) :
    Calls Tryz.prog 77 #[o.p] w (StP w X o c) := by
  have hXl : Hid (∀ b, X b → b < w.heap.size) := Lib.hid h.old
  have hFX : Hid (∀ b, o.F c.nb b → X b) := Lib.hid h.inX
  have hbl : o.bc < w.heap.size := block_lt_of_cell (h.cell).1
  have H := Lib.hid h
  clear h
  go_enter Tryz.func77, Tryz.ntmps77
  go_wp2_with fail
  have K1 : Hid (Kp (o.F c.nb) w (w.alloc (.cells #[.int .i64 0, .int .i64 0, .slice none 0 0] 139))) := Lib.hid ((Kp.refl _ _).alloc _)
  have H1 : Hid (ChAt (w.alloc (.cells #[.int .i64 0, .int .i64 0, .slice none 0 0] 139)) (fun b => X b ∨ b = w.heap.size) o c) := Lib.hid (H.out.widen ((Below.refl _ _).alloc (Nat.le_refl _) _) (fun b hb => hb.elim .inl fun e => .inr (by omega)) (fun b hb => by
    rw [show (w.alloc (.cells #[.int .i64 0, .int .i64 0, .slice none 0 0] 139)).heap.size = w.heap.size + 1 by simp]
    rcases hb with hb | hb
    · have := hXl.out b hb; omega
    · omega) (fun b hb => .inl hb))
  have B1 := Lib.hid (Blk.new w 139 #[.int .i64 0, .int .i64 0, .slice none 0 0])
  generalize (w.alloc (.cells #[.int .i64 0, .int .i64 0, .slice none 0 0] 139)) = W1 at K1 H1 B1
  generalize hg : w.heap.size = g at B1 H1 hXl hbl
  have HG := Lib.hid hg
  clear hg
  have hbg : o.bc ≠ g := by omega
  have gbg : g ≠ o.bc := by omega
  obtain ⟨-, -, -, -, -, c6, c7, -⟩ := H1.out.cell
  have f6 := H1.out.froz 6
  have f7 := H1.out.froz 7
  go_step3
  go_wp2_with fail
  have gW1 : g < W1.heap.size := B1.out.lt
  have H2 : Hid (ChAt (((W1.setCell ⟨o.bc, 6, none⟩ (.int .i64 (wrap64 (c.since + 1)))).setCell ⟨o.bc, 7, none⟩ (.int .i64 (wrap64 (c.strokes + 1)))).alloc (.cells #[.int .i64 0, .int .i64 0, .slice none 0 0] 139)) (fun b => X b ∨ b = g ∨ b = W1.heap.size) o (stC c)) := Lib.hid (by
    have h := (H1.out.putSince (wrap64 (c.since + 1))).putStrokes (wrap64 (c.strokes + 1))
    have hz : ((W1.setCell ⟨o.bc, 6, none⟩ (.int .i64 (wrap64 (c.since + 1)))).setCell ⟨o.bc, 7, none⟩ (.int .i64 (wrap64 (c.strokes + 1)))).heap.size = W1.heap.size := by simp [World.setCell]
    refine ChAt.widen h ((Below.refl _ _).alloc (Nat.le_refl _) _) (fun b hb => ?_) (fun b hb => ?_) (fun b hb => ?_)
    · rcases hb with hb | hb | hb
      · exact .inl (.inl hb)
      · exact .inl (.inr hb)
      · exact .inr (by omega)
    · have : ∀ ob, (((W1.setCell ⟨o.bc, 6, none⟩ (.int .i64 (wrap64 (c.since + 1)))).setCell ⟨o.bc, 7, none⟩ (.int .i64 (wrap64 (c.strokes + 1)))).alloc ob).heap.size = W1.heap.size + 1 := fun ob => by simp [World.setCell]
      rw [this]
      rcases hb with hb | hb | hb
      · have := hXl.out b hb; omega
      · omega
      · omega
    · rcases hb with hb | hb
      · exact .inl hb
      · exact .inr (.inl hb))
  have K2 := Lib.hid (((K1.out.setCell (p := ⟨o.bc, 6, none⟩) (.inl (.inl rfl)) (.int .i64 (wrap64 (c.since + 1)))).setCell (p := ⟨o.bc, 7, none⟩) (.inl (.inl rfl)) (.int .i64 (wrap64 (c.strokes + 1)))).alloc (.cells #[.int .i64 0, .int .i64 0, .slice none 0 0] 139))
  have B2 := Lib.hid (((B1.out.far (p := ⟨o.bc, 6, none⟩) (fun e => hbg e.symm) (.int .i64 (wrap64 (c.since + 1)))).far (p := ⟨o.bc, 7, none⟩) (fun e => hbg e.symm) (.int .i64 (wrap64 (c.strokes + 1)))).alloc (.cells #[.int .i64 0, .int .i64 0, .slice none 0 0] 139))
  have C2 := Lib.hid (Blk.new ((W1.setCell ⟨o.bc, 6, none⟩ (.int .i64 (wrap64 (c.since + 1)))).setCell ⟨o.bc, 7, none⟩ (.int .i64 (wrap64 (c.strokes + 1)))) 139 #[.int .i64 0, .int .i64 0, .slice none 0 0])
  have hsz : ((W1.setCell ⟨o.bc, 6, none⟩ (.int .i64 (wrap64 (c.since + 1)))).setCell ⟨o.bc, 7, none⟩ (.int .i64 (wrap64 (c.strokes + 1)))).heap.size = W1.heap.size := by simp [World.setCell]
  rw [hsz] at C2
  generalize (((W1.setCell ⟨o.bc, 6, none⟩ (.int .i64 (wrap64 (c.since + 1)))).setCell ⟨o.bc, 7, none⟩ (.int .i64 (wrap64 (c.strokes + 1)))).alloc (.cells #[.int .i64 0, .int .i64 0, .slice none 0 0] 139)) = W2 at H2 K2 B2 C2
  generalize hg2 : W1.heap.size = g2 at C2 gW1 H2
  clear hg2 hsz c6 c7 f6 f7 H1 B1 K1
  have g12 : g ≠ g2 := by omega
  have g21 : g2 ≠ g := by omega
  obtain ⟨fv, hbk, a, cap, rfl, hm, hrow⟩ : ∃ fv, Blk W2 o.bc 96 (chV o (stC c) fv) ∧ FlAt W2 (fun b => X b ∨ b = g ∨ b = g2) fv c.fl := H2.out.chip
  have c5 : W2.cell? ⟨o.bc, 5, none⟩ = some (.slice a c.fl.length cap) := hbk.cell 5
  have hlen : c.fl.length ≤ 9223372036854775807 := by have : c.fl.length ≤ maxLen := hm; unfold maxLen at this; omega
  have HRow := Lib.hid hrow
  clear hbk hm hrow
  go_step3
  go_wp2_with fail
  go_loopw [6, 30] (fun _ i wr => ∃ k : Nat, k ≤ c.fl.length ∧ i = .int .i64 k ∧ Hid (Below W2.heap.size W2 wr) ∧ Hid (∀ j (hj : j < c.fl.length), j < k → c.fl[j].at' ≠ c.since)) (fun _ i _ => c.fl.length - (intOf i).toNat)
  case atStart => exact ⟨0, by omega, rfl, Lib.hid (Below.refl _ _), Lib.hid fun j _ hj => absurd hj (Nat.not_lt_zero _)⟩
  case round =>
    obtain ⟨k, hk, rfl, hbel, hN⟩ := hrel
    have HBr := Lib.hid (B2.out.below hbel.out B2.out.lt)
    have HCr := Lib.hid (C2.out.below hbel.out C2.out.lt)
    by_cases hlt : k < c.fl.length
    · rcases HRow.out with h0 | ⟨b, off, rfl, hx, hcs⟩
      · rw [h0] at hlt; simp at hlt
      obtain ⟨q0, q1, da, dc, q2, hr, hd⟩ := hcs k hlt
      have r0 := (hbel.out.cell (block_lt_of_cell q0)).trans q0
      have r1 := (hbel.out.cell (block_lt_of_cell q1)).trans q1
      have r2 := (hbel.out.cell (block_lt_of_cell q2)).trans q2
      have kl : (k : Int) < (c.fl.length : Int) := by omega
      have HFd : Hid (c.fl[k].at' = c.since → fnd c.fl c.since = c.fl[k]) := Lib.hid (fnd_at hlt hN.out)
      have HNx : Hid (c.fl[k].at' ≠ c.since → ∀ j (hj : j < c.fl.length), j < k + 1 → c.fl[j].at' ≠ c.since) := Lib.hid fun hne j hj g => by
        by_cases e : j = k
        · subst e; exact hne
        · exact hN.out j hj (by omega)
      have HDr := Lib.hid hr
      have HDl := Lib.hid hd
      clear hcs q0 q1 q2 hx hr hd
      generalize c.fl[k] = f at r0 r1 r2 HFd HNx HDr HDl
      by_cases he : f.at' = c.since
      · have t0 : (f.at' == c.since) = true := beq_iff_eq.2 he
        have x0 := fun ob => cell_alloc (HCr.out.cell 0) ob
        have x1 := fun ob => cell_alloc (HCr.out.cell 1) ob
        have x2 := fun ob => cell_alloc (HCr.out.cell 2) ob
        have z0 := fun ob i => (HCr.out.alloc ob).frozen i
        have y0 := fun ob => cell_alloc (HBr.out.cell 0) ob
        have y1 := fun ob => cell_alloc (HBr.out.cell 1) ob
        have y2 := fun ob => cell_alloc (HBr.out.cell 2) ob
        have u0 := fun ob i => (HBr.out.alloc ob).frozen i
        have HF' := Lib.hid (HFd.out he)
        clear he HFd HNx
        go_wp2
        rw [Exit.noGoto_ret]
        refine stroke_last H2.out hbel.out hXl.out gW1 hFX.out HF'.out HDr.out HDl.out rfl ?_ ?_ ?_
        · exact Blk.put3 (Blk.far (Blk.far (Blk.far (Blk.alloc HBr.out _) g12 _) g12 _) g12 _)
        · exact Kp.setCell (Kp.setCell (Kp.setCell (Kp.setCell (Kp.setCell (Kp.setCell (Kp.alloc (Kp.refl _ _) _) (.inl (.inr rfl)) _) (.inl (.inr rfl)) _) (.inl (.inr rfl)) _) (.inl (.inl rfl)) _) (.inl (.inl rfl)) _) (.inl (.inl rfl)) _
        · have hq1 : w.heap.size ≤ g := by have := HG.out; omega
          have hq2 : w.heap.size ≤ g2 := by have := HG.out; omega
          exact Kp.setCell (Kp.setCell (Kp.setCell (Kp.setCell (Kp.setCell (Kp.setCell (Kp.alloc (K2.out.trans (Kp.of_below hbel.out)) _) (.inr hq2) _) (.inr hq2) _) (.inr hq2) _) (.inr hq1) _) (.inr hq1) _) (.inr hq1) _
      · have t0 : (f.at' == c.since) = false := beq_eq_false_iff_ne.2 he
        have HN' := Lib.hid (HNx.out he)
        clear he HFd HNx HDr HDl
        go_wp2
        go_roundw
        case rel => exact ⟨k + 1, by omega, by go_num, Lib.hid (hbel.out.alloc hbel.out.size _), HN'⟩
        case measure => simp [intOf]; omega
    · have hkn : k = c.fl.length := by omega
      subst hkn
      have HFd := Lib.hid (fnd_none hN.out)
      have x0 := HCr.out.cell 0
      have x1 := HCr.out.cell 1
      have x2 := HCr.out.cell 2
      have z0 := fun i => HCr.out.frozen i
      have y0 := HBr.out.cell 0
      have y1 := HBr.out.cell 1
      have y2 := HBr.out.cell 2
      have u0 := fun i => HBr.out.frozen i
      go_wp2
      rw [Exit.noGoto_ret]
      refine stroke_last (f := ⟨0, 0, []⟩) H2.out hbel.out hXl.out gW1 hFX.out HFd.out (RwX.nil (a := none)) (Nat.le_refl 0) rfl ?_ ?_ ?_
      · exact Blk.put3 HBr.out
      · exact Kp.setCell (Kp.setCell (Kp.setCell (Kp.refl _ _) (.inl (.inl rfl)) _) (.inl (.inl rfl)) _) (.inl (.inl rfl)) _
      · have hq1 : w.heap.size ≤ g := by have := HG.out; omega
        exact Kp.setCell (Kp.setCell (Kp.setCell (K2.out.trans (Kp.of_below hbel.out)) (.inr hq1) _) (.inr hq1) _) (.inr hq1) _
end Go.Proofs.YtbfifppdcmimaaaGreat

/-
  What the library knows of ints. Nothing of one statement alone stands here.
-/
namespace Go.Proofs.YtbfifppdcmimaaaGreat
open Go.RowKit
theorem Tryz.infoInt : (Tryz.prog.info? 3).map (fun i => (i.zero, i.size, i.bytes)) = some (some (.int .i64 0), 1, 8) := by kernel_rfl
end Go.Proofs.YtbfifppdcmimaaaGreat
