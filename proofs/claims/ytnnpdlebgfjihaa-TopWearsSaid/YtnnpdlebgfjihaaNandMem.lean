/-
  A chip in memory: the blocks that are its own, what stands in them, and what leaves it as it is. Nothing of one statement alone stands here.
-/
import Derived.Test.YtnnpdlebgfjihaaBytes
import Derived.Test.YtnnpdlebgfjihaaBlk
namespace Go.Proofs.Ytnnpdlebgfjihaa
open Go.RowKit Crcm Go.ChangeShapes

/-- of what was there nothing but these blocks has turned -/
structure Kp (F : Nat → Prop) (w w' : World) : Prop where
  os : w'.os = w.os
  tape : w'.tape = w.tape
  output : w'.output = w.output
  size : w.heap.size ≤ w'.heap.size
  block : ∀ k, k < w.heap.size → ¬ F k → w'.heap[k]? = w.heap[k]?
theorem Kp.refl (F : Nat → Prop) (w : World) : Kp F w w := ⟨rfl, rfl, rfl, Nat.le_refl _, fun _ _ _ => rfl⟩
theorem Kp.trans {F : Nat → Prop} {a b c : World} (h : Kp F a b) (k : Kp F b c) : Kp F a c :=
  ⟨k.os.trans h.os, k.tape.trans h.tape, k.output.trans h.output, Nat.le_trans h.size k.size, fun i hi hf => (k.block i (Nat.lt_of_lt_of_le hi h.size) hf).trans (h.block i hi hf)⟩
theorem Kp.mono {F G : Nat → Prop} {w w' : World} (h : Kp F w w') (hf : ∀ k, F k → G k) : Kp G w w' :=
  ⟨h.os, h.tape, h.output, h.size, fun k hk hg => h.block k hk fun g => hg (hf k g)⟩
theorem Kp.of_below {F : Nat → Prop} {w w' : World} (h : Below w.heap.size w w') : Kp F w w' :=
  ⟨h.os, h.tape, h.output, h.size, fun k hk _ => h.block k hk⟩
theorem Kp.below {F : Nat → Prop} {B : Nat} {w w' : World} (h : Kp F w w') (hF : ∀ k, F k → B ≤ k) (hB : B ≤ w.heap.size) : Below B w w' :=
  ⟨h.os, h.tape, h.output, h.size, fun k hk => h.block k (Nat.lt_of_lt_of_le hk hB) fun g => Nat.lt_irrefl _ (Nat.lt_of_lt_of_le hk (hF k g))⟩
theorem Kp.alloc {F : Nat → Prop} {a w : World} (h : Kp F a w) (o : Obj) : Kp F a (w.alloc o) :=
  h.trans (Kp.of_below ((Below.refl _ _).alloc (Nat.le_refl _) o))
theorem Kp.drew {F : Nat → Prop} {a w : World} (h : Kp F a w) : Kp F a w.drew := ⟨h.os, h.tape, h.output, h.size, h.block⟩
theorem Kp.setCell {F : Nat → Prop} {a w : World} (h : Kp F a w) {p : Addr} (hp : F p.block ∨ a.heap.size ≤ p.block) (u : Value) : Kp F a (w.setCell p u) :=
  ⟨h.os, h.tape, h.output, by have := h.size; simpa [World.setCell] using this, fun k hk hf => by
    rw [Below.heap_setCell w p u k (by rcases hp with g | g; exact fun e => hf (e ▸ g); omega)]
    exact h.block k hk hf⟩
theorem Kp.cell {F : Nat → Prop} {w w' : World} (h : Kp F w w') {p : Addr} (hl : p.block < w.heap.size) (hp : ¬ F p.block) : w'.cell? p = w.cell? p :=
  World.cell?_of_block (w := w) (h.block p.block hl hp)
theorem Blk.kp {F : Nat → Prop} {w w' : World} {g : Nat} {t : TypeId} {cs : Array Value} (h : Blk w g t cs) (hk : Kp F w w') (hg : ¬ F g) : Blk w' g t cs := (hk.block g h.lt hg).trans h

/-- a row of bytes that lies in none of these blocks -/
def RwX (w : World) (X : Nat → Prop) (a : Option Addr) (l : List Int) : Prop := Rw w a l ∧ ∀ b off s, a = some ⟨b, off, s⟩ → l ≠ [] → ¬ X b
theorem RwX.kp {F X : Nat → Prop} {w w' : World} {a : Option Addr} {l : List Int} (h : RwX w X a l) (hk : Kp F w w') (hf : ∀ b, F b → X b) : RwX w' X a l := by
  obtain ⟨⟨h1, h2, h3⟩, h4⟩ := h
  refine ⟨⟨h1, h2, ?_⟩, h4⟩
  rcases h3 with h3 | ⟨b, off, rfl, h3⟩
  · exact .inl h3
  · refine .inr ⟨b, off, rfl, fun i hi => ?_⟩
    have hx := h4 b off none rfl (fun e => by rw [e] at hi; simp at hi)
    rw [hk.cell (p := ⟨b, off + i, none⟩) (block_lt_of_cell (h3 i hi)) (fun g => hx (hf _ g))]
    exact h3 i hi
theorem RwX.nil {w : World} {X : Nat → Prop} {a : Option Addr} : RwX w X a [] := ⟨Rw.nil, fun _ _ _ _ h => absurd rfl h⟩
theorem RwX.of_new {w0 w : World} {X : Nat → Prop} {a : Option Addr} {l : List Int} (h : Rw w a l) (hX : ∀ b, X b → b < w0.heap.size) (ha : ∀ b off s, a = some ⟨b, off, s⟩ → l ≠ [] → w0.heap.size ≤ b) : RwX w X a l :=
  ⟨h, fun b off s e hl g => by have := hX b g; have := ha b off s e hl; omega⟩

/-- a fault -/
structure Fl where
  at' : Int
  kind : Int
  data : List Int
/-- faults in memory -/
def FlAt (w : World) (X : Nat → Prop) (v : Value) (fl : List Fl) : Prop :=
  ∃ a cap, v = .slice a fl.length cap ∧ fl.length ≤ maxLen ∧ (fl = [] ∨ ∃ b off, a = some ⟨b, off, none⟩ ∧ ¬ X b ∧ ∀ j (h : j < fl.length),
    w.cell? ⟨b, off + j * 3, none⟩ = some (.int .i64 fl[j].at') ∧ w.cell? ⟨b, off + j * 3 + 1, none⟩ = some (.int .i64 fl[j].kind) ∧
    ∃ da dc, w.cell? ⟨b, off + j * 3 + 2, none⟩ = some (.slice da fl[j].data.length dc) ∧ RwX w X da fl[j].data ∧ fl[j].data.length ≤ dc)
theorem FlAt.kp {F X : Nat → Prop} {w w' : World} {v : Value} {fl : List Fl} (h : FlAt w X v fl) (hk : Kp F w w') (hf : ∀ b, F b → X b) : FlAt w' X v fl := by
  obtain ⟨a, cap, h1, h2, h3⟩ := h
  refine ⟨a, cap, h1, h2, ?_⟩
  rcases h3 with h3 | ⟨b, off, rfl, hx, h3⟩
  · exact .inl h3
  · refine .inr ⟨b, off, rfl, hx, fun j hj => ?_⟩
    obtain ⟨c0, c1, da, dc, c2, hr, hl⟩ := h3 j hj
    have hn : ¬ F b := fun g => hx (hf _ g)
    refine ⟨?_, ?_, da, dc, ?_, hr.kp hk hf, hl⟩
    · rw [hk.cell (p := ⟨b, off + j * 3, none⟩) (block_lt_of_cell c0) hn]; exact c0
    · rw [hk.cell (p := ⟨b, off + j * 3 + 1, none⟩) (block_lt_of_cell c1) hn]; exact c1
    · rw [hk.cell (p := ⟨b, off + j * 3 + 2, none⟩) (block_lt_of_cell c2) hn]; exact c2
theorem FlAt.nil {w : World} {X : Nat → Prop} {a : Option Addr} {c : Nat} : FlAt w X (.slice a 0 c) [] := ⟨a, c, rfl, Nat.zero_le _, .inl rfl⟩

/-- a page in memory: erased, or bytes -/
def PgAt (w : World) (X : Nat → Prop) (v : Value) (wd : Nat) : Option (List Int) → Prop
  | none => v = .slice none 0 0
  | some l => ∃ b off c, v = .slice (some ⟨b, off, none⟩) wd c ∧ wd ≤ c ∧ l.length = wd ∧ RwX w X (some ⟨b, off, none⟩) l
theorem PgAt.kp {F X : Nat → Prop} {w w' : World} {v : Value} {wd : Nat} {p : Option (List Int)} (h : PgAt w X v wd p) (hk : Kp F w w') (hf : ∀ b, F b → X b) : PgAt w' X v wd p := by
  cases p with
  | none => exact h
  | some l =>
    obtain ⟨b, off, c, h1, h2, h3, h4⟩ := h
    exact ⟨b, off, c, h1, h2, h3, h4.kp hk hf⟩

/-- a chip -/
structure Ch where
  nb : Nat
  np : Nat
  sz : Nat
  pg : Nat → Nat → Option (List Int)
  broken : Nat → Bool
  bad : Nat → Bool
  wear : Nat → Int
  up : Bool
  fl : List Fl
  since : Int
  strokes : Int
  reads : Int
/-- the numbers of the blocks of memory that are a chip's own -/
structure Own where
  bc : Nat
  bb : Nat
  pb : Nat → Nat
def Own.F (o : Own) (n b : Nat) : Prop := b = o.bc ∨ b = o.bb ∨ ∃ k, k < n ∧ b = o.pb k
/-- a right geometry -/
def Gd (nb np sz : Nat) : Prop := 7 < nb ∧ nb < 129 ∧ 3 < np ∧ np < 33 ∧ (sz = 64 ∨ sz = 128 ∨ sz = 256 ∨ sz = 512)

/-- what stands at the chip's own block -/
def chV (o : Own) (c : Ch) (fv : Value) : Array Value :=
  #[.int .i64 c.nb, .int .i64 c.np, .int .i64 c.sz, .slice (some ⟨o.bb, 0, none⟩) c.nb c.nb, .bool c.up, fv, .int .i64 c.since, .int .i64 c.strokes, .int .i64 c.reads]
/-- what stands in the row of its blocks -/
def BkV (o : Own) (c : Ch) (cs : Array Value) : Prop :=
  cs.size = 4 * c.nb ∧ ∀ k, k < c.nb → cs[k * 4]? = some (.slice (some ⟨o.pb k, 0, none⟩) c.np c.np) ∧ cs[k * 4 + 1]? = some (.bool (c.broken k)) ∧ cs[k * 4 + 2]? = some (.bool (c.bad k)) ∧ cs[k * 4 + 3]? = some (.int .i64 (c.wear k))
/-- what stands in the row of a block's pages -/
def PgV (w : World) (X : Nat → Prop) (np wd : Nat) (f : Nat → Option (List Int)) (cs : Array Value) : Prop :=
  cs.size = np ∧ ∀ i, i < np → ∃ v, cs[i]? = some v ∧ PgAt w X v wd (f i)
/-- a chip in memory; X: what may be written by anyone -/
structure ChAt (w : World) (X : Nat → Prop) (o : Own) (c : Ch) : Prop where
  good : Gd c.nb c.np c.sz
  old : ∀ b, X b → b < w.heap.size
  inX : ∀ b, o.F c.nb b → X b
  neb : o.bc ≠ o.bb
  nep : ∀ k, k < c.nb → o.pb k ≠ o.bc ∧ o.pb k ≠ o.bb
  inj : ∀ k j, k < c.nb → j < c.nb → o.pb k = o.pb j → k = j
  chip : ∃ fv, Blk w o.bc 88 (chV o c fv) ∧ FlAt w X fv c.fl
  blocks : ∃ cs, Blk w o.bb 93 cs ∧ BkV o c cs
  pages : ∀ k, k < c.nb → ∃ cs, Blk w (o.pb k) 39 cs ∧ PgV w X c.np (c.sz + 32) (c.pg k) cs

/-- what leaves the chip's own blocks as they are, and writes only where may be written, leaves the chip -/
theorem ChAt.kp {F X : Nat → Prop} {w w' : World} {o : Own} {c : Ch} (h : ChAt w X o c) (hk : Kp F w w') (hf : ∀ b, F b → X b) (hd : ∀ b, o.F c.nb b → ¬ F b) : ChAt w' X o c := by
  refine ⟨h.good, fun b hb => Nat.lt_of_lt_of_le (h.old b hb) hk.size, h.inX, h.neb, h.nep, h.inj, ?_, ?_, fun k hkn => ?_⟩
  · obtain ⟨fv, h1, h2⟩ := h.chip
    exact ⟨fv, h1.kp hk (hd _ (.inl rfl)), h2.kp hk hf⟩
  · obtain ⟨cs, h1, h2⟩ := h.blocks
    exact ⟨cs, h1.kp hk (hd _ (.inr (.inl rfl))), h2⟩
  · obtain ⟨cs, h1, h2, h3⟩ := h.pages k hkn
    refine ⟨cs, h1.kp hk (hd _ (.inr (.inr ⟨k, hkn, rfl⟩))), h2, fun i hi => ?_⟩
    obtain ⟨v, g1, g2⟩ := h3 i hi
    exact ⟨v, g1, g2.kp hk hf⟩
theorem ChAt.below {X : Nat → Prop} {w w' : World} {o : Own} {c : Ch} (h : ChAt w X o c) (hb : Below w.heap.size w w') : ChAt w' X o c :=
  h.kp (F := fun _ => False) (Kp.of_below hb) (fun _ g => g.elim) (fun _ _ g => g)

/-- what may be written grows by new blocks -/
theorem RwX.widen {w w' : World} {X X' : Nat → Prop} {a : Option Addr} {l : List Int} (h : RwX w X a l) (hb : Below w.heap.size w w') (hX : ∀ b, X' b → X b ∨ w.heap.size ≤ b) : RwX w' X' a l := by
  obtain ⟨h1, h2⟩ := h
  refine ⟨h1.below hb, fun b off s e hl g => ?_⟩
  rcases hX b g with g | g
  · exact h2 b off s e hl g
  · rcases h1.2.2 with h3 | ⟨b', off', e', h3⟩
    · exact hl h3
    · rw [e'] at e
      injection e with e
      injection e with e1 e2 e3
      subst e1
      have hp : 0 < l.length := by
        cases l with
        | nil => exact absurd rfl hl
        | cons x r => simp
      have := block_lt_of_cell (h3 0 hp)
      have : b' < w.heap.size := this
      omega
theorem FlAt.widen {w w' : World} {X X' : Nat → Prop} {v : Value} {fl : List Fl} (h : FlAt w X v fl) (hb : Below w.heap.size w w') (hX : ∀ b, X' b → X b ∨ w.heap.size ≤ b) : FlAt w' X' v fl := by
  obtain ⟨a, cap, h1, h2, h3⟩ := h
  refine ⟨a, cap, h1, h2, ?_⟩
  by_cases h0 : fl = []
  · exact .inl h0
  rcases h3 with h3 | ⟨b, off, rfl, hx, h3⟩
  · exact absurd h3 h0
  have hp : 0 < fl.length := by
    cases fl with
    | nil => exact absurd rfl h0
    | cons x r => simp
  have hbl : b < w.heap.size := block_lt_of_cell (h3 0 hp).1
  refine .inr ⟨b, off, rfl, fun g => ?_, fun j hj => ?_⟩
  · rcases hX b g with g | g
    · exact hx g
    · omega
  · obtain ⟨c0, c1, da, dc, c2, hr, hl⟩ := h3 j hj
    exact ⟨(hb.cell (p := ⟨b, off + j * 3, none⟩) hbl).trans c0, (hb.cell (p := ⟨b, off + j * 3 + 1, none⟩) hbl).trans c1, da, dc, (hb.cell (p := ⟨b, off + j * 3 + 2, none⟩) hbl).trans c2, hr.widen hb hX, hl⟩
theorem PgAt.widen {w w' : World} {X X' : Nat → Prop} {v : Value} {wd : Nat} {p : Option (List Int)} (h : PgAt w X v wd p) (hb : Below w.heap.size w w') (hX : ∀ b, X' b → X b ∨ w.heap.size ≤ b) : PgAt w' X' v wd p := by
  cases p with
  | none => exact h
  | some l =>
    obtain ⟨b, off, c, h1, h2, h3, h4⟩ := h
    exact ⟨b, off, c, h1, h2, h3, h4.widen hb hX⟩
theorem ChAt.widen {w w' : World} {X X' : Nat → Prop} {o : Own} {c : Ch} (h : ChAt w X o c) (hb : Below w.heap.size w w') (hX : ∀ b, X' b → X b ∨ w.heap.size ≤ b) (hO : ∀ b, X' b → b < w'.heap.size) (hI : ∀ b, X b → X' b) : ChAt w' X' o c := by
  refine ⟨h.good, hO, fun b hb => hI _ (h.inX b hb), h.neb, h.nep, h.inj, ?_, ?_, fun k hkn => ?_⟩
  · obtain ⟨fv, h1, h2⟩ := h.chip
    exact ⟨fv, h1.below hb h1.lt, h2.widen hb hX⟩
  · obtain ⟨cs, h1, h2⟩ := h.blocks
    exact ⟨cs, h1.below hb h1.lt, h2⟩
  · obtain ⟨cs, h1, h2, h3⟩ := h.pages k hkn
    refine ⟨cs, h1.below hb h1.lt, h2, fun i hi => ?_⟩
    obtain ⟨v, g1, g2⟩ := h3 i hi
    exact ⟨v, g1, g2.widen hb hX⟩
theorem RwX.narrow {w : World} {X X' : Nat → Prop} {a : Option Addr} {l : List Int} (h : RwX w X' a l) (hI : ∀ b, X b → X' b) : RwX w X a l := ⟨h.1, fun b off s e hl g => h.2 b off s e hl (hI b g)⟩
theorem FlAt.narrow {w : World} {X X' : Nat → Prop} {v : Value} {fl : List Fl} (h : FlAt w X' v fl) (hI : ∀ b, X b → X' b) : FlAt w X v fl := by
  obtain ⟨a, cap, h1, h2, h3⟩ := h
  refine ⟨a, cap, h1, h2, ?_⟩
  rcases h3 with h3 | ⟨b, off, rfl, hx, h3⟩
  · exact .inl h3
  · refine .inr ⟨b, off, rfl, fun g => hx (hI b g), fun j hj => ?_⟩
    obtain ⟨c0, c1, da, dc, c2, hr, hl⟩ := h3 j hj
    exact ⟨c0, c1, da, dc, c2, hr.narrow hI, hl⟩
theorem PgAt.narrow {w : World} {X X' : Nat → Prop} {v : Value} {wd : Nat} {p : Option (List Int)} (h : PgAt w X' v wd p) (hI : ∀ b, X b → X' b) : PgAt w X v wd p := by
  cases p with
  | none => exact h
  | some l =>
    obtain ⟨b, off, c, h1, h2, h3, h4⟩ := h
    exact ⟨b, off, c, h1, h2, h3, h4.narrow hI⟩
theorem ChAt.narrow {w : World} {X X' : Nat → Prop} {o : Own} {c : Ch} (h : ChAt w X' o c) (hI : ∀ b, X b → X' b) (hF : ∀ b, o.F c.nb b → X b) : ChAt w X o c := by
  refine ⟨h.good, fun b hb => h.old b (hI b hb), hF, h.neb, h.nep, h.inj, ?_, h.blocks, fun k hkn => ?_⟩
  · obtain ⟨fv, h1, h2⟩ := h.chip
    exact ⟨fv, h1, h2.narrow hI⟩
  · obtain ⟨cs, h1, h2, h3⟩ := h.pages k hkn
    refine ⟨cs, h1, h2, fun i hi => ?_⟩
    obtain ⟨v, g1, g2⟩ := h3 i hi
    exact ⟨v, g1, g2.narrow hI⟩

theorem ChAt.cell {w : World} {X : Nat → Prop} {o : Own} {c : Ch} (h : ChAt w X o c) :
    w.cell? ⟨o.bc, 0, none⟩ = some (.int .i64 c.nb) ∧ w.cell? ⟨o.bc, 1, none⟩ = some (.int .i64 c.np) ∧ w.cell? ⟨o.bc, 2, none⟩ = some (.int .i64 c.sz) ∧ w.cell? ⟨o.bc, 3, none⟩ = some (.slice (some ⟨o.bb, 0, none⟩) c.nb c.nb) ∧
    w.cell? ⟨o.bc, 4, none⟩ = some (.bool c.up) ∧ w.cell? ⟨o.bc, 6, none⟩ = some (.int .i64 c.since) ∧ w.cell? ⟨o.bc, 7, none⟩ = some (.int .i64 c.strokes) ∧ w.cell? ⟨o.bc, 8, none⟩ = some (.int .i64 c.reads) := by
  obtain ⟨fv, h1, -⟩ := h.chip
  exact ⟨h1.cell 0, h1.cell 1, h1.cell 2, h1.cell 3, h1.cell 4, h1.cell 6, h1.cell 7, h1.cell 8⟩
theorem ChAt.froz {w : World} {X : Nat → Prop} {o : Own} {c : Ch} (h : ChAt w X o c) (i : Nat) : w.frozen? ⟨o.bc, i, none⟩ = false := by
  obtain ⟨fv, h1, -⟩ := h.chip
  exact h1.frozen i
theorem ChAt.bcell {w : World} {X : Nat → Prop} {o : Own} {c : Ch} (h : ChAt w X o c) {k : Nat} (hk : k < c.nb) :
    w.cell? ⟨o.bb, k * 4, none⟩ = some (.slice (some ⟨o.pb k, 0, none⟩) c.np c.np) ∧ w.cell? ⟨o.bb, k * 4 + 1, none⟩ = some (.bool (c.broken k)) ∧ w.cell? ⟨o.bb, k * 4 + 2, none⟩ = some (.bool (c.bad k)) ∧ w.cell? ⟨o.bb, k * 4 + 3, none⟩ = some (.int .i64 (c.wear k)) := by
  obtain ⟨cs, h1, h2, h3⟩ := h.blocks
  obtain ⟨g0, g1, g2, g3⟩ := h3 k hk
  exact ⟨(h1.cell _).trans g0, (h1.cell _).trans g1, (h1.cell _).trans g2, (h1.cell _).trans g3⟩
theorem ChAt.bfroz {w : World} {X : Nat → Prop} {o : Own} {c : Ch} (h : ChAt w X o c) (i : Nat) : w.frozen? ⟨o.bb, i, none⟩ = false := by
  obtain ⟨cs, h1, -⟩ := h.blocks
  exact h1.frozen i
theorem ChAt.pcell {w : World} {X : Nat → Prop} {o : Own} {c : Ch} (h : ChAt w X o c) {k i : Nat} (hk : k < c.nb) (hi : i < c.np) :
    ∃ v, w.cell? ⟨o.pb k, i, none⟩ = some v ∧ PgAt w X v (c.sz + 32) (c.pg k i) := by
  obtain ⟨cs, h1, h2, h3⟩ := h.pages k hk
  obtain ⟨v, g1, g2⟩ := h3 i hi
  exact ⟨v, (h1.cell _).trans g1, g2⟩
theorem ChAt.pfroz {w : World} {X : Nat → Prop} {o : Own} {c : Ch} (h : ChAt w X o c) {k : Nat} (hk : k < c.nb) (i : Nat) : w.frozen? ⟨o.pb k, i, none⟩ = false := by
  obtain ⟨cs, h1, -⟩ := h.pages k hk
  exact h1.frozen i
end Go.Proofs.Ytnnpdlebgfjihaa
