/-
  A slice of slices of bytes that came in: what it reads as. Nothing of one statement alone stands here.
-/
import Derived.Test.YtjjggmopkfkpaaaGreatKA
import Derived.Test.YtjjggmopkfkpaaaGreatKB
import Derived.Test.YtjjggmopkfkpaaaGreatKC
import Derived.Deep.Slices
import Derived.Deep.Grids
import Derived.Deep.Strs
import Derived.SizedLaws
namespace Go.Proofs.YtjjggmopkfkpaaaGreat
open Go.RowKit Crcm Go.ChangeShapes

/-- what is told of a slice of slices of bytes that came in -/
def RowLB (w : World) (a : Option Addr) (len cap : Nat) : Prop :=
  (a = none ∧ len = 0 ∧ cap = 0) ∨ ∃ ad, a = some ad ∧ len ≤ cap ∧ cap ≤ maxLen ∧ ∀ j, j < len → ∃ A n c z, w.cell? (ad.add j) = some (.slice A n c) ∧ Row8 w A n c z
/-- rows of bytes where a slice says that they are -/
def Rl (w : World) (a : Option Addr) (ls : List (List Int)) : Prop :=
  ls = [] ∨ ∃ b off, a = some ⟨b, off, none⟩ ∧ ∀ j, j < ls.length → ∃ A c, w.cell? ⟨b, off + j, none⟩ = some (.slice A ls[j]!.length c) ∧ ls[j]!.length ≤ c ∧ Rw w A ls[j]!
theorem choose_rows (m : Nat) (p : Nat → List Int → Prop) (h : ∀ i, i < m → ∃ x, p i x) : ∃ l : List (List Int), l.length = m ∧ ∀ i, i < m → p i l[i]! := by
  obtain ⟨f, hf⟩ := Go.Deep.choose_lt h
  refine ⟨(List.range m).map f, by simp, fun i hi => ?_⟩
  rw [getElem!_pos _ _ (by simpa using hi)]
  simpa using hf i hi
theorem RowLB.rl {w : World} {a : Option Addr} {len cap : Nat} (h : RowLB w a len cap) : ∃ ls : List (List Int), ls.length = len ∧ len ≤ cap ∧ cap ≤ maxLen ∧ Rl w a ls := by
  rcases h with ⟨rfl, rfl, rfl⟩ | ⟨ad, rfl, hl, hm, hc⟩
  · exact ⟨[], rfl, Nat.le_refl _, Nat.zero_le _, .inl rfl⟩
  · obtain ⟨ls, hls, hp⟩ := choose_rows len (fun j l => ∃ A c, w.cell? (ad.add j) = some (.slice A l.length c) ∧ l.length ≤ c ∧ Rw w A l) (fun j hj => by
      obtain ⟨A, n, c, z, h1, h2⟩ := hc j hj
      obtain ⟨l, hll, hlc, hr, -⟩ := h2.rw
      exact ⟨l, A, c, by rw [hll]; exact h1, by omega, hr⟩)
    refine ⟨ls, hls, hl, hm, ?_⟩
    by_cases h0 : len = 0
    · left; exact List.eq_nil_of_length_eq_zero (by omega)
    · right
      obtain ⟨b, off, spot⟩ := ad
      obtain ⟨A, c, h1, -⟩ := hp 0 (by omega)
      have hspot : spot = none := by simpa [Addr.add] using World.cell?_spot h1
      subst hspot
      refine ⟨b, off, rfl, fun j hj => ?_⟩
      obtain ⟨A, c, h1, h2, h3⟩ := hp j (by omega)
      rw [Addr.add_lit] at h1
      exact ⟨A, c, h1, h2, h3⟩
theorem Rl.below {w w' : World} {a : Option Addr} {ls : List (List Int)} (h : Rl w a ls) (hb : Below w.heap.size w w') : Rl w' a ls := by
  rcases h with h | ⟨b, off, rfl, h⟩
  · exact .inl h
  · refine .inr ⟨b, off, rfl, fun j hj => ?_⟩
    obtain ⟨A, c, h1, h2, h3⟩ := h j hj
    exact ⟨A, c, (hb.cell (block_lt_of_cell h1)).trans h1, h2, h3.below hb⟩
theorem Rl.at {w : World} {a : Option Addr} {ls : List (List Int)} (h : Rl w a ls) {j : Nat} (hj : j < ls.length) : ∃ b off A c, a = some ⟨b, off, none⟩ ∧ w.cell? ⟨b, off + j, none⟩ = some (.slice A ls[j]!.length c) ∧ ls[j]!.length ≤ c ∧ Rw w A ls[j]! := by
  rcases h with rfl | ⟨b, off, rfl, h⟩
  · simp at hj
  · obtain ⟨A, c, h1, h2, h3⟩ := h j hj
    exact ⟨b, off, A, c, rfl, h1, h2, h3⟩
theorem Tryz.cellsB8 : Tryz.prog.cellsOf 40 = 1 := by kernel_rfl

set_option maxRecDepth 100000 in
theorem rowLB_open {H : Type} {enc : TypeId × Value → H} {W : World} {held : Bool} {fuel : Nat} {a : Option Addr} {len cap : Nat} {x : DataW H × List MemPlace}
    (h : DataW.trod enc Tryz.prog W 0 (fun _ => true) held fuel 78 [.slice a len cap] = some x) : RowLB W a len cap := by
  rcases Go.Deep.open_slice1 Tryz.underlying78 Tryz.cellsB8 h with ⟨hcs, _⟩ | ⟨ad, ln, cp, m, n, V, D, Pl, hcs, _, hl, hm, hmm, _, hi⟩
  · simp at hcs
    obtain ⟨rfl, rfl, rfl⟩ := hcs
    exact .inl ⟨rfl, rfl, rfl⟩
  · simp at hcs
    obtain ⟨rfl, rfl, rfl⟩ := hcs
    simp at hmm
    subst hmm
    refine .inr ⟨ad, rfl, hl, hm, fun j hj => ?_⟩
    obtain ⟨h1, h2⟩ := hi j (by omega)
    rcases open_ints Tryz.underlying40 Tryz.underlying5 (by kernel_rfl) h2 with ⟨hcs, _⟩ | ⟨x, l, c, zs, hcs, _, hl2, hm2, hz, _, hcell, hwz⟩
    · simp at hcs
      rw [hcs] at h1
      exact ⟨none, 0, 0, [], h1, .inl ⟨rfl, rfl, rfl, rfl⟩⟩
    · simp at hcs
      rw [hcs] at h1
      exact ⟨some x, l, c, zs, h1, .inr ⟨x, rfl, hl2, hm2, by simpa using hz, hcell, hwz⟩⟩

end Go.Proofs.YtjjggmopkfkpaaaGreat

/-
  A slice of operations that came in, an operation by value: what they read as.
-/
namespace Go.Proofs.YtjjggmopkfkpaaaGreat
open Go.RowKit Crcm Go.ChangeShapes

theorem Tryz.cellsI1 : Tryz.prog.cellsOf 3 = 1 := by kernel_rfl
theorem Tryz.cellsF3 : Tryz.prog.cellsOf 51 = 3 := by kernel_rfl
theorem Tryz.cellsFs : Tryz.prog.cellsOf 25 = 1 := by kernel_rfl
instance : Inhabited Fl := ⟨⟨0, 0, []⟩⟩
/-- an operation -/
structure Oz where
  kind : Int
  block : Int
  page : Int
  b : List Int
  fl : List Fl
instance : Inhabited Oz := ⟨⟨0, 0, 0, [], []⟩⟩

theorem choose_any {α : Type} [Inhabited α] (m : Nat) (p : Nat → α → Prop) (h : ∀ i, i < m → ∃ x, p i x) : ∃ l : List α, l.length = m ∧ ∀ i, i < m → p i l[i]! := by
  obtain ⟨f, hf⟩ := Go.Deep.choose_lt h
  refine ⟨(List.range m).map f, by simp, fun i hi => ?_⟩
  rw [getElem!_pos _ _ (by simpa using hi)]
  simpa using hf i hi

/-- a slice value that reads as bytes -/
def BsV (w : World) (v : Value) (l : List Int) : Prop := ∃ A c, v = .slice A l.length c ∧ l.length ≤ c ∧ c ≤ maxLen ∧ Rw w A l
/-- a slice value that reads as faults -/
def FsV (w : World) (v : Value) (fl : List Fl) : Prop := ∃ a c, v = .slice a fl.length c ∧ fl.length ≤ c ∧ c ≤ maxLen ∧ FlAt w (fun _ => False) v fl ∧ ∀ f ∈ fl, (Lit.int .i64 f.at').wf = true ∧ (Lit.int .i64 f.kind).wf = true

theorem bytes_open {H : Type} {enc : TypeId × Value → H} {W : World} {held : Bool} {fuel : Nat} {cs : List Value} {x : DataW H × List MemPlace}
    (h : DataW.trod enc Tryz.prog W 0 (fun _ => true) held fuel 40 cs = some x) : ∃ v l, cs = [v] ∧ BsV W v l := by
  rcases open_ints Tryz.underlying40 Tryz.underlying5 (by kernel_rfl) h with ⟨hcs, _⟩ | ⟨y, l, c, zs, hcs, _, hl2, hm2, hz, _, hcell, hwz⟩
  · exact ⟨_, [], hcs, none, 0, rfl, Nat.le_refl _, Nat.zero_le _, Rw.nil⟩
  · obtain ⟨l', hll, hlc, hr, -⟩ := (show Row8 W (some y) l c zs from .inr ⟨y, rfl, hl2, hm2, by simpa using hz, hcell, hwz⟩).rw
    exact ⟨_, l', hcs, some y, c, by rw [hll], by omega, hm2, hr⟩

set_option maxRecDepth 100000 in
theorem faults_open {H : Type} {enc : TypeId × Value → H} {W : World} {held : Bool} {fuel : Nat} {cs : List Value} {x : DataW H × List MemPlace}
    (h : DataW.trod enc Tryz.prog W 0 (fun _ => true) held fuel 25 cs = some x) : ∃ v fl, cs = [v] ∧ FsV W v fl := by
  rcases Go.Deep.open_slice Tryz.underlying25 h with ⟨hcs, _⟩ | ⟨ad, ln, cp, m, n, D, Pl, hcs, _, hl, hm, hmm, _, hi⟩
  · exact ⟨_, [], hcs, none, 0, rfl, Nat.le_refl _, Nat.zero_le _, FlAt.nil, by simp⟩
  · simp at hmm
    subst hmm
    have each : ∀ i, i < m → ∃ y : Fl, ((Lit.int .i64 y.at').wf = true ∧ (Lit.int .i64 y.kind).wf = true) ∧ W.cell? (ad.add (i * 3)) = some (.int .i64 y.at') ∧ W.cell? (ad.add (i * 3 + 1)) = some (.int .i64 y.kind) ∧
        ∃ v, W.cell? (ad.add (i * 3 + 2)) = some v ∧ BsV W v y.data := by
      intro i him
      obtain ⟨cs', hc, ht⟩ := hi i him
      rw [Tryz.cellsF3] at hc
      obtain ⟨_, hcl, hat⟩ := World.cells?_some hc
      obtain ⟨xs, k, _, _, _, hxl, hg⟩ := DataW.trod_struct Tryz.underlying51 ht
      match cs', hcl, xs, hxl with
      | [c0, c1, c2], _, [y0, y1, y2], _ =>
        have h0 := hg 0 _ rfl
        have h1 := hg 1 _ rfl
        have h2 := hg 2 _ rfl
        obtain ⟨z0, e0, -, q0⟩ := DataW.trod_int Tryz.underlying3 h0
        obtain ⟨z1, e1, -, q1⟩ := DataW.trod_int Tryz.underlying3 h1
        obtain ⟨v2, l2, e2, hv2⟩ := bytes_open h2
        simp [Tryz.cellsI1, Tryz.cellsB8] at e0 e1 e2
        subst e0 e1 e2
        have g0 := hat 0 (by omega)
        have g1 := hat 1 (by omega)
        have g2 := hat 2 (by omega)
        rw [Go.Deep.add_add] at g0 g1 g2
        exact ⟨⟨z0, z1, l2⟩, ⟨q0, q1⟩, by simpa using g0, by simpa using g1, _, by simpa using g2, hv2⟩
    obtain ⟨fl, hll, hlf⟩ := choose_any m _ each
    have hwf : ∀ f ∈ fl.take ln, (Lit.int .i64 f.at').wf = true ∧ (Lit.int .i64 f.kind).wf = true := by
      intro f hf
      obtain ⟨j, hj, rfl⟩ := List.getElem_of_mem (List.mem_of_mem_take hf)
      have := (hlf j (by omega)).1
      rw [getElem!_pos (c := fl) (i := j) (h := hj)] at this
      exact this
    have htl : (fl.take ln).length = ln := by rw [List.length_take]; omega
    refine ⟨_, fl.take ln, hcs, some ad, m, by rw [htl], by omega, hm, ⟨some ad, m, by rw [htl], by omega, ?_⟩, hwf⟩
    by_cases h0 : ln = 0
    · subst h0; exact .inl (by simp)
    · right
      obtain ⟨b, off, spot⟩ := ad
      obtain ⟨-, c0, -⟩ := hlf 0 (by omega)
      have hspot : spot = none := by simpa [Addr.add] using World.cell?_spot c0
      subst hspot
      refine ⟨b, off, rfl, fun hf => hf, fun j hj => ?_⟩
      rw [htl] at hj
      obtain ⟨-, c0, c1, v, c2, A, c, rfl, hlc, -, hr⟩ := hlf j (by omega)
      rw [getElem!_pos _ _ (by omega)] at c0 c1 c2 hlc hr
      rw [Addr.add_lit] at c0 c1 c2
      rw [List.getElem_take]
      exact ⟨c0, by simpa [Nat.add_assoc] using c1, A, c, by simpa [Nat.add_assoc] using c2, ⟨hr, fun _ _ _ _ _ hf => hf⟩, hlc⟩

/-- an operation's cells -/
def OzAt (w : World) (b off : Nat) (y : Oz) : Prop :=
  w.cell? ⟨b, off, none⟩ = some (.int .i64 y.kind) ∧ w.cell? ⟨b, off + 1, none⟩ = some (.int .i64 y.block) ∧ w.cell? ⟨b, off + 2, none⟩ = some (.int .i64 y.page) ∧
  (∃ v, w.cell? ⟨b, off + 3, none⟩ = some v ∧ BsV w v y.b) ∧ (∃ v, w.cell? ⟨b, off + 4, none⟩ = some v ∧ FsV w v y.fl)
def OzW (y : Oz) : Prop := (Lit.int .i64 y.kind).wf = true ∧ (Lit.int .i64 y.block).wf = true ∧ (Lit.int .i64 y.page).wf = true
/-- a row of operations where a slice says that it is -/
def Ro (w : World) (a : Option Addr) (l : List Oz) : Prop :=
  l.length ≤ maxLen ∧ (∀ y ∈ l, OzW y) ∧ (l = [] ∨ ∃ b off, a = some ⟨b, off, none⟩ ∧ ∀ j, j < l.length → OzAt w b (off + j * 5) l[j]!)

end Go.Proofs.YtjjggmopkfkpaaaGreat

/-
  Whether operations are more than the statements of layer 2 look at, and whether a geometry is.
-/
namespace Go.Proofs.YtjjggmopkfkpaaaGreat
open Go.RowKit Crcm Go.ChangeShapes

/-- the lengths of a row of operations, where the walk reads them -/
theorem Ro.at {w : World} {a : Option Addr} {ol : List Oz} (h : Ro w a ol) {k : Nat} (hk : k < ol.length) : ∃ b off, a = some ⟨b, off, none⟩ ∧ OzAt w b (off + k * 5) ol[k]! := by
  rcases h.2.2 with h | ⟨b, off, rfl, hc⟩
  · rw [h] at hk; simp at hk
  · exact ⟨b, off, rfl, hc k hk⟩
theorem FsV.at {w : World} {a : Option Addr} {n c : Nat} {fl : List Fl} (h : FsV w (.slice a n c) fl) {k : Nat} (hk : k < fl.length) : ∃ b off, a = some ⟨b, off, none⟩ ∧ w.cell? ⟨b, off + k * 3, none⟩ = some (.int .i64 fl[k].at') ∧ w.cell? ⟨b, off + k * 3 + 1, none⟩ = some (.int .i64 fl[k].kind) ∧
    ∃ da dc, w.cell? ⟨b, off + k * 3 + 2, none⟩ = some (.slice da fl[k].data.length dc) ∧ Rw w da fl[k].data ∧ fl[k].data.length ≤ dc := by
  obtain ⟨a', c', he, -, -, hf, -⟩ := h
  obtain ⟨a2, c2, he2, -, hf⟩ := hf
  injection he2 with e1 e2 e3
  subst e1
  rcases hf with h | ⟨b, off, rfl, -, hc⟩
  · rw [h] at hk; simp at hk
  · obtain ⟨c0, c1, da, dc, c2, hr, hl⟩ := hc k hk
    exact ⟨b, off, rfl, c0, c1, da, dc, c2, hr.1, hl⟩

end Go.Proofs.YtjjggmopkfkpaaaGreat

/-
  Whether operations are more than the statements of layer 2 look at: if not, each of them is small.
-/
namespace Go.Proofs.YtjjggmopkfkpaaaGreat
open Go.RowKit Crcm Go.ChangeShapes

/-- an operation of few bytes -/
def Sm (z : Int) (y : Oz) : Prop := (y.b.length : Int) ≤ z ∧ (y.fl.length : Int) ≤ z ∧ ∀ f ∈ y.fl, (f.data.length : Int) ≤ z
/-- an operation of no more bytes than memory has -/
def SzO (y : Oz) : Prop := y.b.length ≤ 140737488355328 ∧ ∀ f ∈ y.fl, f.data.length ≤ 140737488355328
theorem Sm.mono {z z' : Int} {y : Oz} (h : Sm z y) (hz : z ≤ z') : Sm z' y := ⟨Int.le_trans h.1 hz, Int.le_trans h.2.1 hz, fun f hf => Int.le_trans (h.2.2 f hf) hz⟩

end Go.Proofs.YtjjggmopkfkpaaaGreat

/-
  Operations that came in, none of more bytes than memory has.
-/
namespace Go.Proofs.YtjjggmopkfkpaaaGreat
open Go.RowKit Crcm Go.ChangeShapes

theorem Tryz.bytesU8 : Tryz.prog.bytesOf 5 = 1 := by kernel_rfl
theorem weights_mem_all {H : Type} {P : Program} {e : TypeId} {d : DataW H} : ∀ {l : List (DataW H)}, d ∈ l → ∀ {n : Nat}, n ∈ d.weights P e → n ∈ DataW.weightsAll P e l
  | [], h, _, _ => by cases h
  | x :: r, h, n, hn => by
    rw [DataW.weightsAll, List.mem_append]
    rcases List.mem_cons.1 h with rfl | h
    · exact .inl hn
    · exact .inr (weights_mem_all h hn)

theorem bytes_sized {H : Type} {enc : TypeId × Value → H} {W : World} {held : Bool} {fuel : Nat} {cs : List Value} {x : DataW H × List MemPlace}
    (h : DataW.trod enc Tryz.prog W 0 (fun _ => true) held fuel 40 cs = some x) (hw : ∀ n ∈ x.1.weights Tryz.prog 40, n ≤ reachBytes) : ∃ v l, cs = [v] ∧ BsV W v l ∧ l.length ≤ 140737488355328 := by
  have hrb := reachBytes_lt
  rcases open_ints Tryz.underlying40 Tryz.underlying5 (by kernel_rfl) h with ⟨hcs, _⟩ | ⟨y, l, c, zs, hcs, _, hl2, hm2, hz, hx, hcell, hwz⟩
  · exact ⟨_, [], hcs, ⟨none, 0, rfl, Nat.le_refl _, Nat.zero_le _, Rw.nil⟩, by simp⟩
  · obtain ⟨l', hll, hlc, hr, -⟩ := (show Row8 W (some y) l c zs from .inr ⟨y, rfl, hl2, hm2, by simpa using hz, hcell, hwz⟩).rw
    have h1 := hw (zs.length * Tryz.prog.bytesOf 5) (by
      subst hx
      simp only [DataW.weights, Tryz.underlying40, List.mem_cons]
      left
      rw [← List.length_append]
      simp only [lits, ← List.map_append, List.take_append_drop, List.length_map])
    rw [Tryz.bytesU8, Nat.mul_one] at h1
    simp at hz
    exact ⟨_, l', hcs, ⟨some y, c, by rw [hll], by omega, hm2, hr⟩, by omega⟩


set_option maxRecDepth 100000 in
theorem faults_sized {H : Type} {enc : TypeId × Value → H} {W : World} {held : Bool} {fuel : Nat} {cs : List Value} {x : DataW H × List MemPlace}
    (h : DataW.trod enc Tryz.prog W 0 (fun _ => true) held fuel 25 cs = some x) (hw : ∀ n ∈ x.1.weights Tryz.prog 25, n ≤ reachBytes) : ∃ v fl, cs = [v] ∧ FsV W v fl ∧ ∀ f ∈ fl, f.data.length ≤ 140737488355328 := by
  rcases Go.Deep.open_slice Tryz.underlying25 h with ⟨hcs, _⟩ | ⟨ad, ln, cp, m, n, D, Pl, hcs, _, hl, hm, hmm, hx0, hi⟩
  · exact ⟨_, [], hcs, ⟨none, 0, rfl, Nat.le_refl _, Nat.zero_le _, FlAt.nil, by simp⟩, by simp⟩
  · simp at hmm
    subst hmm
    have each : ∀ i, i < m → ∃ y : Fl, ((Lit.int .i64 y.at').wf = true ∧ (Lit.int .i64 y.kind).wf = true) ∧ (i < ln → y.data.length ≤ 140737488355328) ∧ W.cell? (ad.add (i * 3)) = some (.int .i64 y.at') ∧ W.cell? (ad.add (i * 3 + 1)) = some (.int .i64 y.kind) ∧
        ∃ v, W.cell? (ad.add (i * 3 + 2)) = some v ∧ BsV W v y.data := by
      intro i him
      obtain ⟨cs', hc, ht⟩ := hi i him
      rw [Tryz.cellsF3] at hc
      obtain ⟨_, hcl, hat⟩ := World.cells?_some hc
      obtain ⟨xs, k, _, hagg, _, hxl, hg⟩ := DataW.trod_struct Tryz.underlying51 ht
      match cs', hcl, xs, hxl with
      | [c0, c1, c2], _, [y0, y1, y2], _ =>
        have h0 := hg 0 _ rfl
        have h1 := hg 1 _ rfl
        have h2 := hg 2 _ rfl
        obtain ⟨z0, e0, -, q0⟩ := DataW.trod_int Tryz.underlying3 h0
        obtain ⟨z1, e1, -, q1⟩ := DataW.trod_int Tryz.underlying3 h1
        obtain ⟨v2, l2, e2, hv2⟩ := bytes_open h2
        have hs2 : i < ln → ∃ v l, _ ∧ BsV W v l ∧ l.length ≤ 140737488355328 := fun hil => bytes_sized h2 (fun n hn => hw n (by
          subst hx0
          simp only [DataW.weights, Tryz.underlying25, List.mem_cons, List.mem_append]
          right; left
          refine weights_mem_all (d := D i) (List.mem_map.2 ⟨i, by simpa using hil, rfl⟩) ?_
          rw [show D i = _ from congrArg Prod.fst hagg]
          simp only [DataW.weights, Tryz.underlying51]
          exact DataW.weights_mem_each (j := 2) rfl rfl n hn))
        simp [Tryz.cellsI1, Tryz.cellsB8] at e0 e1 e2
        subst e0 e1 e2
        have hs3 : i < ln → l2.length ≤ 140737488355328 := fun hil => by
          obtain ⟨v, l, e, hb, hl⟩ := hs2 hil
          simp [Tryz.cellsB8] at e
          subst e
          obtain ⟨_, _, h3, -⟩ := hb
          obtain ⟨_, _, h4, -⟩ := hv2
          rw [h4] at h3
          injection h3 with _ h5
          omega
        have g0 := hat 0 (by omega)
        have g1 := hat 1 (by omega)
        have g2 := hat 2 (by omega)
        rw [Go.Deep.add_add] at g0 g1 g2
        exact ⟨⟨z0, z1, l2⟩, ⟨q0, q1⟩, hs3, by simpa using g0, by simpa using g1, _, by simpa using g2, hv2⟩
    obtain ⟨fl, hll, hlf⟩ := choose_any m _ each
    have hwf : ∀ f ∈ fl.take ln, (Lit.int .i64 f.at').wf = true ∧ (Lit.int .i64 f.kind).wf = true := by
      intro f hf
      obtain ⟨j, hj, rfl⟩ := List.getElem_of_mem (List.mem_of_mem_take hf)
      have := (hlf j (by omega)).1
      rw [getElem!_pos (c := fl) (i := j) (h := hj)] at this
      exact this
    have hsz : ∀ f ∈ fl.take ln, f.data.length ≤ 140737488355328 := by
      intro f hf
      obtain ⟨j, hj, rfl⟩ := List.getElem_of_mem hf
      have hj2 : j < ln := by rw [List.length_take] at hj; omega
      have := (hlf j (by omega)).2.1 hj2
      rw [getElem!_pos fl j (by omega)] at this
      rw [List.getElem_take]
      exact this
    have htl : (fl.take ln).length = ln := by rw [List.length_take]; omega
    refine ⟨_, fl.take ln, hcs, ⟨some ad, m, by rw [htl], by omega, hm, ⟨some ad, m, by rw [htl], by omega, ?_⟩, hwf⟩, hsz⟩
    by_cases h0 : ln = 0
    · subst h0; exact .inl (by simp)
    · right
      obtain ⟨b, off, spot⟩ := ad
      obtain ⟨-, -, c0, -⟩ := hlf 0 (by omega)
      have hspot : spot = none := by simpa [Addr.add] using World.cell?_spot c0
      subst hspot
      refine ⟨b, off, rfl, fun hf => hf, fun j hj => ?_⟩
      rw [htl] at hj
      obtain ⟨-, -, c0, c1, v, c2, A, c, rfl, hlc, -, hr⟩ := hlf j (by omega)
      rw [getElem!_pos _ _ (by omega)] at c0 c1 c2 hlc hr
      rw [Addr.add_lit] at c0 c1 c2
      rw [List.getElem_take]
      exact ⟨c0, by simpa [Nat.add_assoc] using c1, A, c, by simpa [Nat.add_assoc] using c2, ⟨hr, fun _ _ _ _ _ hf => hf⟩, hlc⟩


/-- a row of numbers that came in -/
theorem ints_ri {H : Type} {enc : TypeId × Value → H} {W : World} {held : Bool} {fuel : Nat} {a : Option Addr} {len cap : Nat} {x : DataW H × List MemPlace}
    (h : DataW.trod enc Tryz.prog W 0 (fun _ => true) held fuel 24 [.slice a len cap] = some x) : ∃ l : List Int, Ri W a l ∧ l.length = len := by
  rcases open_ints Tryz.underlying24 Tryz.underlying3 (by kernel_rfl) h with ⟨hcs, _⟩ | ⟨y, l, c, zs, hcs, _, hl2, hm2, hz, _, hcell, hwz⟩
  · simp at hcs
    obtain ⟨rfl, rfl, rfl⟩ := hcs
    exact ⟨[], Ri.nil, rfl⟩
  · simp at hcs
    obtain ⟨rfl, rfl, rfl⟩ := hcs
    simp at hz
    have htl : (zs.take len).length = len := by rw [List.length_take]; omega
    refine ⟨zs.take len, ⟨by omega, ?_⟩, htl⟩
    by_cases h0 : len = 0
    · subst h0; exact .inl (by simp)
    · right
      obtain ⟨b, off, spot⟩ := y
      have c0 := hcell 0 (by omega)
      have hspot : spot = none := by simpa [Addr.add] using World.cell?_spot c0
      subst hspot
      refine ⟨b, off, rfl, fun j hj => ?_⟩
      rw [htl] at hj
      have := hcell j (by omega)
      rw [Addr.add_lit] at this
      rw [List.getElem_take]
      simpa [List.getD_eq_getElem?_getD, show j < zs.length by omega] using this
end Go.Proofs.YtjjggmopkfkpaaaGreat
