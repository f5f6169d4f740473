/-
  A slice of operations that came in, an operation by value: what they read as.
-/
import Derived.Test.YtiaaeiefgnoiaaaRowLB
import Derived.Test.YtiaaeiefgnoiaaaNandMem
import Derived.Deep.Strs
namespace Go.Proofs.Ytiaaeiefgnoiaaa
open Go.RowKit Crcm Go.ChangeShapes

theorem Try.cellsI1 : Try.prog.cellsOf 3 = 1 := by kernel_rfl
theorem Try.cellsF3 : Try.prog.cellsOf 66 = 3 := by kernel_rfl
theorem Try.cellsFs : Try.prog.cellsOf 28 = 1 := by kernel_rfl
theorem Try.cellsO5 : Try.prog.cellsOf 30 = 5 := by kernel_rfl

instance : Inhabited Fl := ⟨⟨0, 0, []⟩⟩
/-- an operation -/
structure Oz where
  kind : Int
  block : Int
  page : Int
  b : List Int
  fl : List Fl
instance : Inhabited Oz := ⟨⟨0, 0, 0, [], []⟩⟩

theorem choose_any {α : Type} [Inhabited α] (m : Nat) (p : Nat → α → Prop) (h : ∀ i, i < m → ∃ x, p i x) : ∃ l : List α, l.length = m ∧ ∀ i, i < m → p i l[i]! := by
  obtain ⟨f, hf⟩ := Go.Deep.choose_lt h
  refine ⟨(List.range m).map f, by simp, fun i hi => ?_⟩
  rw [getElem!_pos _ _ (by simpa using hi)]
  simpa using hf i hi

/-- a slice value that reads as bytes -/
def BsV (w : World) (v : Value) (l : List Int) : Prop := ∃ A c, v = .slice A l.length c ∧ l.length ≤ c ∧ c ≤ maxLen ∧ Rw w A l
/-- a slice value that reads as faults -/
def FsV (w : World) (v : Value) (fl : List Fl) : Prop := ∃ a c, v = .slice a fl.length c ∧ fl.length ≤ c ∧ c ≤ maxLen ∧ FlAt w (fun _ => False) v fl ∧ ∀ f ∈ fl, (Lit.int .i64 f.at').wf = true ∧ (Lit.int .i64 f.kind).wf = true

theorem bytes_open {H : Type} {enc : TypeId × Value → H} {W : World} {held : Bool} {fuel : Nat} {cs : List Value} {x : DataW H × List MemPlace}
    (h : DataW.trod enc Try.prog W 0 (fun _ => true) held fuel 27 cs = some x) : ∃ v l, cs = [v] ∧ BsV W v l := by
  rcases open_ints Try.underlying27 Try.underlying5 (by kernel_rfl) h with ⟨hcs, _⟩ | ⟨y, l, c, zs, hcs, _, hl2, hm2, hz, _, hcell, hwz⟩
  · exact ⟨_, [], hcs, none, 0, rfl, Nat.le_refl _, Nat.zero_le _, Rw.nil⟩
  · obtain ⟨l', hll, hlc, hr, -⟩ := (show Row8 W (some y) l c zs from .inr ⟨y, rfl, hl2, hm2, by simpa using hz, hcell, hwz⟩).rw
    exact ⟨_, l', hcs, some y, c, by rw [hll], by omega, hm2, hr⟩

set_option maxRecDepth 100000 in
theorem faults_open {H : Type} {enc : TypeId × Value → H} {W : World} {held : Bool} {fuel : Nat} {cs : List Value} {x : DataW H × List MemPlace}
    (h : DataW.trod enc Try.prog W 0 (fun _ => true) held fuel 28 cs = some x) : ∃ v fl, cs = [v] ∧ FsV W v fl := by
  rcases Go.Deep.open_slice Try.underlying28 h with ⟨hcs, _⟩ | ⟨ad, ln, cp, m, n, D, Pl, hcs, _, hl, hm, hmm, _, hi⟩
  · exact ⟨_, [], hcs, none, 0, rfl, Nat.le_refl _, Nat.zero_le _, FlAt.nil, by simp⟩
  · simp at hmm
    subst hmm
    have each : ∀ i, i < m → ∃ y : Fl, ((Lit.int .i64 y.at').wf = true ∧ (Lit.int .i64 y.kind).wf = true) ∧ W.cell? (ad.add (i * 3)) = some (.int .i64 y.at') ∧ W.cell? (ad.add (i * 3 + 1)) = some (.int .i64 y.kind) ∧
        ∃ v, W.cell? (ad.add (i * 3 + 2)) = some v ∧ BsV W v y.data := by
      intro i him
      obtain ⟨cs', hc, ht⟩ := hi i him
      rw [Try.cellsF3] at hc
      obtain ⟨_, hcl, hat⟩ := World.cells?_some hc
      obtain ⟨xs, k, _, _, _, hxl, hg⟩ := DataW.trod_struct Try.underlying66 ht
      match cs', hcl, xs, hxl with
      | [c0, c1, c2], _, [y0, y1, y2], _ =>
        have h0 := hg 0 _ rfl
        have h1 := hg 1 _ rfl
        have h2 := hg 2 _ rfl
        obtain ⟨z0, e0, -, q0⟩ := DataW.trod_int Try.underlying3 h0
        obtain ⟨z1, e1, -, q1⟩ := DataW.trod_int Try.underlying3 h1
        obtain ⟨v2, l2, e2, hv2⟩ := bytes_open h2
        simp [Try.cellsI1, Try.cellsB8] at e0 e1 e2
        subst e0 e1 e2
        have g0 := hat 0 (by omega)
        have g1 := hat 1 (by omega)
        have g2 := hat 2 (by omega)
        rw [Go.Deep.add_add] at g0 g1 g2
        exact ⟨⟨z0, z1, l2⟩, ⟨q0, q1⟩, by simpa using g0, by simpa using g1, _, by simpa using g2, hv2⟩
    obtain ⟨fl, hll, hlf⟩ := choose_any m _ each
    have hwf : ∀ f ∈ fl.take ln, (Lit.int .i64 f.at').wf = true ∧ (Lit.int .i64 f.kind).wf = true := by
      intro f hf
      obtain ⟨j, hj, rfl⟩ := List.getElem_of_mem (List.mem_of_mem_take hf)
      have := (hlf j (by omega)).1
      rw [getElem!_pos (c := fl) (i := j) (h := hj)] at this
      exact this
    have htl : (fl.take ln).length = ln := by rw [List.length_take]; omega
    refine ⟨_, fl.take ln, hcs, some ad, m, by rw [htl], by omega, hm, ⟨some ad, m, by rw [htl], by omega, ?_⟩, hwf⟩
    by_cases h0 : ln = 0
    · subst h0; exact .inl (by simp)
    · right
      obtain ⟨b, off, spot⟩ := ad
      obtain ⟨-, c0, -⟩ := hlf 0 (by omega)
      have hspot : spot = none := by simpa [Addr.add] using World.cell?_spot c0
      subst hspot
      refine ⟨b, off, rfl, fun hf => hf, fun j hj => ?_⟩
      rw [htl] at hj
      obtain ⟨-, c0, c1, v, c2, A, c, rfl, hlc, -, hr⟩ := hlf j (by omega)
      rw [getElem!_pos _ _ (by omega)] at c0 c1 c2 hlc hr
      rw [Addr.add_lit] at c0 c1 c2
      rw [List.getElem_take]
      exact ⟨c0, by simpa [Nat.add_assoc] using c1, A, c, by simpa [Nat.add_assoc] using c2, ⟨hr, fun _ _ _ _ _ hf => hf⟩, hlc⟩

/-- an operation's cells -/
def OzAt (w : World) (b off : Nat) (y : Oz) : Prop :=
  w.cell? ⟨b, off, none⟩ = some (.int .i64 y.kind) ∧ w.cell? ⟨b, off + 1, none⟩ = some (.int .i64 y.block) ∧ w.cell? ⟨b, off + 2, none⟩ = some (.int .i64 y.page) ∧
  (∃ v, w.cell? ⟨b, off + 3, none⟩ = some v ∧ BsV w v y.b) ∧ (∃ v, w.cell? ⟨b, off + 4, none⟩ = some v ∧ FsV w v y.fl)
def OzW (y : Oz) : Prop := (Lit.int .i64 y.kind).wf = true ∧ (Lit.int .i64 y.block).wf = true ∧ (Lit.int .i64 y.page).wf = true
/-- a row of operations where a slice says that it is -/
def Ro (w : World) (a : Option Addr) (l : List Oz) : Prop :=
  l.length ≤ maxLen ∧ (∀ y ∈ l, OzW y) ∧ (l = [] ∨ ∃ b off, a = some ⟨b, off, none⟩ ∧ ∀ j, j < l.length → OzAt w b (off + j * 5) l[j]!)

set_option maxRecDepth 100000 in
theorem ops_open {H : Type} {enc : TypeId × Value → H} {W : World} {held : Bool} {fuel : Nat} {cs : List Value} {x : DataW H × List MemPlace}
    (h : DataW.trod enc Try.prog W 0 (fun _ => true) held fuel 33 cs = some x) : ∃ a l c, cs = [.slice a l.length c] ∧ l.length ≤ c ∧ c ≤ maxLen ∧ Ro W a l := by
  rcases Go.Deep.open_slice Try.underlying33 h with ⟨hcs, _⟩ | ⟨ad, ln, cp, m, n, D, Pl, hcs, _, hl, hm, hmm, _, hi⟩
  · exact ⟨none, [], 0, hcs, Nat.le_refl _, Nat.zero_le _, Nat.zero_le _, by simp, .inl rfl⟩
  · simp at hmm
    subst hmm
    have each : ∀ i, i < m → ∃ y : Oz, OzW y ∧ W.cell? (ad.add (i * 5)) = some (.int .i64 y.kind) ∧ W.cell? (ad.add (i * 5 + 1)) = some (.int .i64 y.block) ∧ W.cell? (ad.add (i * 5 + 2)) = some (.int .i64 y.page) ∧
        (∃ v, W.cell? (ad.add (i * 5 + 3)) = some v ∧ BsV W v y.b) ∧ (∃ v, W.cell? (ad.add (i * 5 + 4)) = some v ∧ FsV W v y.fl) := by
      intro i him
      obtain ⟨cs', hc, ht⟩ := hi i him
      rw [Try.cellsO5] at hc
      obtain ⟨_, hcl, hat⟩ := World.cells?_some hc
      obtain ⟨xs, k, _, _, _, hxl, hg⟩ := DataW.trod_struct Try.underlying30 ht
      match cs', hcl, xs, hxl with
      | [c0, c1, c2, c3, c4], _, [y0, y1, y2, y3, y4], _ =>
        have h0 := hg 0 _ rfl
        have h1 := hg 1 _ rfl
        have h2 := hg 2 _ rfl
        have h3 := hg 3 _ rfl
        have h4 := hg 4 _ rfl
        obtain ⟨z0, e0, -, q0⟩ := DataW.trod_int Try.underlying3 h0
        obtain ⟨z1, e1, -, q1⟩ := DataW.trod_int Try.underlying3 h1
        obtain ⟨z2, e2, -, q2⟩ := DataW.trod_int Try.underlying3 h2
        obtain ⟨v3, l3, e3, hv3⟩ := bytes_open h3
        obtain ⟨v4, l4, e4, hv4⟩ := faults_open h4
        simp [Try.cellsI1, Try.cellsB8, Try.cellsFs] at e0 e1 e2 e3 e4
        subst e0 e1 e2 e3 e4
        have g0 := hat 0 (by omega)
        have g1 := hat 1 (by omega)
        have g2 := hat 2 (by omega)
        have g3 := hat 3 (by omega)
        have g4 := hat 4 (by omega)
        rw [Go.Deep.add_add] at g0 g1 g2 g3 g4
        exact ⟨⟨z0, z1, z2, l3, l4⟩, ⟨q0, q1, q2⟩, by simpa using g0, by simpa using g1, by simpa using g2, ⟨_, by simpa using g3, hv3⟩, ⟨_, by simpa using g4, hv4⟩⟩
    obtain ⟨l, hll, hlf⟩ := choose_any m _ each
    have hwf : ∀ y ∈ l.take ln, OzW y := by
      intro f hf
      obtain ⟨j, hj, rfl⟩ := List.getElem_of_mem (List.mem_of_mem_take hf)
      have := (hlf j (by omega)).1
      rw [getElem!_pos (c := l) (i := j) (h := hj)] at this
      exact this
    have htl : (l.take ln).length = ln := by rw [List.length_take]; omega
    refine ⟨some ad, l.take ln, m, by rw [htl]; exact hcs, by omega, hm, by omega, hwf, ?_⟩
    by_cases h0 : ln = 0
    · subst h0; exact .inl (by simp)
    · right
      obtain ⟨b, off, spot⟩ := ad
      obtain ⟨-, c0, -⟩ := hlf 0 (by omega)
      have hspot : spot = none := by simpa [Addr.add] using World.cell?_spot c0
      subst hspot
      refine ⟨b, off, rfl, fun j hj => ?_⟩
      rw [htl] at hj
      obtain ⟨-, c0, c1, c2, ⟨v3, c3, h3⟩, ⟨v4, c4, h4⟩⟩ := hlf j (by omega)
      rw [Addr.add_lit] at c0 c1 c2 c3 c4
      have he : (l.take ln)[j]! = l[j]! := by rw [getElem!_pos _ _ (by omega), getElem!_pos _ _ (by omega), List.getElem_take]
      rw [he]
      exact ⟨c0, by simpa [Nat.add_assoc] using c1, by simpa [Nat.add_assoc] using c2, ⟨v3, by simpa [Nat.add_assoc] using c3, h3⟩, ⟨v4, by simpa [Nat.add_assoc] using c4, h4⟩⟩

end Go.Proofs.Ytiaaeiefgnoiaaa
