/-
  What a manager is set up by, and what is done with it, as they come in. Nothing of one statement alone stands here.
-/
import Derived.Test.YtjjggmopkfkpaaaGreatKF
import Derived.Test.YtjjggmopkfkpaaaGreatKC
import Derived.Test.YtjjggmopkfkpaaaGreatKH
import Derived.Deep.Grids
namespace Go.Proofs.YtjjggmopkfkpaaaGreat
open Go.RowKit Crcm Gcm Go.ChangeShapes

/-- a chip, its faults, and what a manager is told of it -/
structure Su where
  x : Int
  y : Int
  z : Int
  bad : List Int
  fl : List Fl
  fr : List Bool
  lv : List Int
  res : Int
  first : Int
/-- where its rows lie -/
structure Sa where
  ab : Option Addr
  cb : Nat
  af : Option Addr
  cf : Nat
  ar : Option Addr
  cr : Nat
  al : Option Addr
  cl : Nat
def suC (s : Su) (a : Sa) : Array Value := #[.int .i64 s.x, .int .i64 s.y, .int .i64 s.z, .slice a.ab s.bad.length a.cb, .slice a.af s.fl.length a.cf, .slice a.ar s.fr.length a.cr, .slice a.al s.lv.length a.cl, .int .i64 s.res, .int .i64 s.first]
/-- a row of truths -/
def Rbb (w : World) (a : Option Addr) (l : List Bool) : Prop := l = [] ∨ ∃ b off, a = some ⟨b, off, none⟩ ∧ ∀ j, j < l.length → w.cell? ⟨b, off + j, none⟩ = some (.bool l[j]!)
theorem Rbb.below {w w' : World} {a : Option Addr} {l : List Bool} (h : Rbb w a l) (hb : Below w.heap.size w w') : Rbb w' a l := by
  rcases h with h | ⟨b, off, rfl, h⟩
  · exact .inl h
  · exact .inr ⟨b, off, rfl, fun j hj => (hb.cell (p := ⟨b, off + j, none⟩) (block_lt_of_cell (h j hj))).trans (h j hj)⟩
/-- no more than memory has -/
def szB : Nat := 140737488355328
structure SuAt (w : World) (s : Su) (a : Sa) : Prop where
  bad : Ri w a.ab s.bad
  fl : FlAt w (fun _ => False) (.slice a.af s.fl.length a.cf) s.fl
  fr : Rbb w a.ar s.fr
  lv : Ri w a.al s.lv
  zb : s.bad.length ≤ 140737488355328
  zf : ∀ f ∈ s.fl, f.data.length ≤ 140737488355328
  zr : s.fr.length ≤ 140737488355328
  zl : s.lv.length ≤ 140737488355328
  mf : s.fl.length ≤ 9223372036854775807
theorem SuAt.below {w w' : World} {s : Su} {a : Sa} (h : SuAt w s a) (hb : Below w.heap.size w w') : SuAt w' s a :=
  ⟨h.bad.below hb, h.fl.kp (F := fun _ => False) (Kp.of_below hb) (fun _ g => g.elim), h.fr.below hb, h.lv.below hb, h.zb, h.zf, h.zr, h.zl, h.mf⟩

/-- an operation: what, which block, which bytes -/
structure Bo where
  kind : Int
  block : Int
  b : List Int
deriving Inhabited
/-- an operation in memory -/
structure BoAt (w : World) (g off : Nat) (y : Bo) : Prop where
  k : w.cell? ⟨g, off, none⟩ = some (.int .i64 y.kind)
  n : w.cell? ⟨g, off + 1, none⟩ = some (.int .i64 y.block)
  b : ∃ A c, w.cell? ⟨g, off + 2, none⟩ = some (.slice A y.b.length c) ∧ y.b.length ≤ c ∧ Rw w A y.b
theorem BoAt.below {w w' : World} {g off : Nat} {y : Bo} (h : BoAt w g off y) (hb : Below w.heap.size w w') : BoAt w' g off y := by
  obtain ⟨h1, h2, A, c, h3, h4, h5⟩ := h
  exact ⟨(hb.cell (block_lt_of_cell h1)).trans h1, (hb.cell (block_lt_of_cell h2)).trans h2, A, c, (hb.cell (block_lt_of_cell h3)).trans h3, h4, h5.below hb⟩
def RoB (w : World) (a : Option Addr) (l : List Bo) : Prop :=
  l.length ≤ maxLen ∧ (∀ y ∈ l, y.b.length ≤ 140737488355328) ∧ (l = [] ∨ ∃ b off, a = some ⟨b, off, none⟩ ∧ ∀ j, j < l.length → BoAt w b (off + j * 3) l[j]!)
theorem RoB.below {w w' : World} {a : Option Addr} {l : List Bo} (h : RoB w a l) (hb : Below w.heap.size w w') : RoB w' a l := by
  refine ⟨h.1, h.2.1, ?_⟩
  rcases h.2.2 with h3 | ⟨b, off, rfl, h3⟩
  · exact .inl h3
  · exact .inr ⟨b, off, rfl, fun j hj => (h3 j hj).below hb⟩
theorem RoB.at {w : World} {a : Option Addr} {l : List Bo} (h : RoB w a l) {j : Nat} (hj : j < l.length) : ∃ b off, a = some ⟨b, off, none⟩ ∧ BoAt w b (off + j * 3) l[j]! := by
  rcases h.2.2 with h3 | ⟨b, off, rfl, h3⟩
  · rw [h3] at hj; simp at hj
  · exact ⟨b, off, rfl, h3 j hj⟩
/-- few enough to be looked at -/
structure SuFew (s : Su) : Prop where
  fl : s.fl.length ≤ 9000
  fd : ∀ f ∈ s.fl, f.data.length ≤ 9000
  bad : s.bad.length ≤ 9000
end Go.Proofs.YtjjggmopkfkpaaaGreat

/-
  A setup and operations, as they come in: opened. Nothing of one statement alone stands here.
-/
namespace Go.Proofs.YtjjggmopkfkpaaaGreat
open Go.RowKit Crcm Gcm Go.ChangeShapes Go.WideShapes

theorem Tryz.cellsBoS : Tryz.prog.cellsOf 4 = 1 := by kernel_rfl
theorem Tryz.cellsOb : Tryz.prog.cellsOf 42 = 3 := by kernel_rfl
theorem Tryz.cellsSu : Tryz.prog.cellsOf 28 = 9 := by kernel_rfl
theorem Tryz.cellsGe : Tryz.prog.cellsOf 23 = 3 := by kernel_rfl
theorem Tryz.cellsIs : Tryz.prog.cellsOf 24 = 1 := by kernel_rfl
theorem Tryz.cellsBs : Tryz.prog.cellsOf 26 = 1 := by kernel_rfl
theorem Tryz.bytesI : Tryz.prog.bytesOf 3 = 8 := by kernel_rfl
theorem Tryz.bytesBo : Tryz.prog.bytesOf 4 = 1 := by kernel_rfl

/-- no row is longer than memory -/
theorem slice_sized {H : Type} {enc : TypeId × Value → H} {W : World} {held : Bool} {fuel : Nat} {t e : TypeId} {a : Option Addr} {len cap : Nat} {x : DataW H × List MemPlace} (ht : Tryz.prog.underlying t = some (.slice e)) (hb : 1 ≤ Tryz.prog.bytesOf e)
    (h : DataW.trod enc Tryz.prog W 0 (fun _ => true) held fuel t [.slice a len cap] = some x) (hw : ∀ n ∈ x.1.weights Tryz.prog t, n ≤ reachBytes) : len ≤ 140737488355328 ∧ len ≤ maxLen := by
  have hrb := reachBytes_lt
  rcases Go.Deep.open_slice ht h with ⟨hcs, _⟩ | ⟨ad, ln, cp, m, n, D, Pl, hcs, _, hl, hm, hmm, hx0, hi⟩
  · simp at hcs
    obtain ⟨rfl, rfl, rfl⟩ := hcs
    exact ⟨Nat.zero_le _, Nat.zero_le _⟩
  · simp at hcs
    obtain ⟨rfl, rfl, rfl⟩ := hcs
    simp at hmm
    subst hmm
    have h1 := hw (m * Tryz.prog.bytesOf e) (by
      subst hx0
      simp only [DataW.weights, ht, List.mem_cons]
      left
      simp only [List.length_map, List.length_range]
      rw [show len + (m - len) = m by omega])
    have h2 : m * 1 ≤ m * Tryz.prog.bytesOf e := Nat.mul_le_mul_left _ hb
    exact ⟨by omega, by omega⟩
theorem bools_rbb {H : Type} {enc : TypeId × Value → H} {W : World} {held : Bool} {fuel : Nat} {cs : List Value} {x : DataW H × List MemPlace}
    (h : DataW.trod enc Tryz.prog W 0 (fun _ => true) held fuel 26 cs = some x) (hw : ∀ n ∈ x.1.weights Tryz.prog 26, n ≤ reachBytes) : ∃ (a : Option Addr) (c : Nat) (l : List Bool), cs = [.slice a l.length c] ∧ Rbb W a l ∧ l.length ≤ 140737488355328 := by
  have h0 := h
  rcases Go.Deep.open_bools Tryz.underlying26 Tryz.underlying4 Tryz.cellsBoS h with ⟨hcs, _⟩ | ⟨y, l, c, f, hcs, _, hl2, hm2, _, hcell⟩
  · exact ⟨none, 0, [], hcs, .inl rfl, Nat.zero_le _⟩
  · subst hcs
    have hs := slice_sized Tryz.underlying26 (by rw [Tryz.bytesBo]; exact Nat.le_refl _) h0 hw
    refine ⟨some y, c, (List.range l).map f, by simp, ?_, by simpa using hs.1⟩
    by_cases h0 : l = 0
    · subst h0; exact .inl (by simp)
    · right
      obtain ⟨b, off, spot⟩ := y
      have c0 := hcell 0 (by omega)
      have hspot : spot = none := by simpa [Addr.add] using World.cell?_spot c0
      subst hspot
      refine ⟨b, off, rfl, fun j hj => ?_⟩
      have hj2 : j < l := by simpa using hj
      have := hcell j (by omega)
      rw [Addr.add_lit] at this
      rw [this, getElem!_pos ((List.range l).map f) j hj]
      simp
theorem ints_riS {H : Type} {enc : TypeId × Value → H} {W : World} {held : Bool} {fuel : Nat} {cs : List Value} {x : DataW H × List MemPlace}
    (h : DataW.trod enc Tryz.prog W 0 (fun _ => true) held fuel 24 cs = some x) (hw : ∀ n ∈ x.1.weights Tryz.prog 24, n ≤ reachBytes) : ∃ (a : Option Addr) (c : Nat) (l : List Int), cs = [.slice a l.length c] ∧ Ri W a l ∧ l.length ≤ 140737488355328 := by
  have h0 := h
  rcases open_ints Tryz.underlying24 Tryz.underlying3 (by kernel_rfl) h with ⟨hcs, _⟩ | ⟨y, l, c, zs, hcs, _, hl2, hm2, hz, _, hcell, hwz⟩
  · exact ⟨none, 0, [], hcs, Ri.nil, Nat.zero_le _⟩
  · subst hcs
    obtain ⟨z, h1, h2⟩ := ints_ri h0
    have hs := slice_sized Tryz.underlying24 (by rw [Tryz.bytesI]; decide) h0 hw
    subst h2
    exact ⟨some y, c, z, rfl, h1, hs.1⟩

set_option maxRecDepth 100000 in
theorem setup_sized {H : Type} {enc : TypeId × Value → H} {w : World} {held : Bool} {r : Reach} {b0 : Nat} {v : Value} {d : DataW H} {p : List MemPlace}
    (hv : Value.okWide Tryz.prog w r b0 28 v) (h : DataW.Trod enc Tryz.prog w 0 (fun _ => true) held 28 v d p) (hw : ∀ n ∈ d.weights Tryz.prog 28, n ≤ reachBytes) :
    ∃ (s : Su) (a : Sa), v = .agg (suC s a) ∧ SuAt w s a := by
  obtain ⟨cs, rfl, hsz⟩ := okWide_struct Tryz.underlying28 hv
  obtain ⟨l⟩ := cs
  match l, hsz.trans Tryz.cellsSu with
  | [c0, c1, c2, c3, c4, c5, c6, c7, c8], _ =>
    obtain ⟨fuel, hf⟩ := h
    obtain ⟨xs, k, _, hagg, _, hxl, hg⟩ := DataW.trod_struct Tryz.underlying28 hf
    match xs, hxl with
    | [y0, y1, y2, y3, y4, y5, y6], _ =>
      have h0 := hg 0 _ rfl
      have h1 := hg 1 _ rfl
      have h2 := hg 2 _ rfl
      have h3 := hg 3 _ rfl
      have h4 := hg 4 _ rfl
      have h5 := hg 5 _ rfl
      have h6 := hg 6 _ rfl
      obtain ⟨xs0, k0, _, hagg0, _, hxl0, hg0⟩ := DataW.trod_struct Tryz.underlying23 h0
      match xs0, hxl0 with
      | [g0, g1, g2], _ =>
        have i0 := hg0 0 _ rfl
        have i1 := hg0 1 _ rfl
        have i2 := hg0 2 _ rfl
        obtain ⟨z0, e0, -, q0⟩ := DataW.trod_int Tryz.underlying3 i0
        obtain ⟨z1, e1, -, q1⟩ := DataW.trod_int Tryz.underlying3 i1
        obtain ⟨z2, e2, -, q2⟩ := DataW.trod_int Tryz.underlying3 i2
        have hup : ∀ j t d', [23, 24, 25, 26, 24, 3, 3][j]? = some t → [y0.1, y1.1, y2.1, y3.1, y4.1, y5.1, y6.1][j]? = some d' → ∀ n ∈ DataW.weights Tryz.prog t d', n ≤ reachBytes := fun j t d' hj hd n hn => hw n (by
          rw [show d = _ from congrArg Prod.fst hagg]
          simp only [DataW.weights, Tryz.underlying28]
          exact DataW.weights_mem_each hj hd n hn)
        obtain ⟨a3, k3, l3, e3, r3, s3⟩ := ints_riS h1 (hup 1 _ _ rfl rfl)
        obtain ⟨v4, l4, e4, hv4, hz4⟩ := faults_sized h2 (hup 2 _ _ rfl rfl)
        obtain ⟨a5, k5, l5, e5, r5, s5⟩ := bools_rbb h3 (hup 3 _ _ rfl rfl)
        obtain ⟨a6, k6, l6, e6, r6, s6⟩ := ints_riS h4 (hup 4 _ _ rfl rfl)
        obtain ⟨z7, e7, -, q7⟩ := DataW.trod_int Tryz.underlying3 h5
        obtain ⟨z8, e8, -, q8⟩ := DataW.trod_int Tryz.underlying3 h6
        clear hup
        obtain ⟨a4, k4, rfl, -, hm4, hf4, -⟩ := hv4
        simp [Value.cells, Tryz.cellsI1, Tryz.cellsGe, Tryz.cellsIs, Tryz.cellsBs, Tryz.cellsFs] at e0 e1 e2 e3 e4 e5 e6 e7 e8
        subst e0 e1 e2 e3 e4 e5 e6 e7 e8
        have hml : l4.length ≤ 9223372036854775807 := by
          obtain ⟨_, _, hh, hml, -⟩ := hf4
          unfold maxLen at hml
          omega
        exact ⟨⟨z0, z1, z2, l3, l4, l5, l6, z7, z8⟩, ⟨a3, k3, a4, k4, a5, k5, a6, k6⟩, rfl, ⟨r3, hf4, r5, r6, s3, hz4, s5, s6, hml⟩⟩
set_option maxRecDepth 100000 in
theorem bops_sized {H : Type} {enc : TypeId × Value → H} {W : World} {held : Bool} {fuel : Nat} {a : Option Addr} {len cap : Nat} {x : DataW H × List MemPlace}
    (h : DataW.trod enc Tryz.prog W 0 (fun _ => true) held fuel 29 [.slice a len cap] = some x) (hw : ∀ n ∈ x.1.weights Tryz.prog 29, n ≤ reachBytes) : ∃ l : List Bo, RoB W a l ∧ l.length = len := by
  rcases Go.Deep.open_slice Tryz.underlying29 h with ⟨hcs, _⟩ | ⟨ad, ln, cp, m, n, D, Pl, hcs, _, hl, hm, hmm, hx0, hi⟩
  · simp at hcs
    obtain ⟨rfl, rfl, rfl⟩ := hcs
    exact ⟨[], ⟨Nat.zero_le _, by simp, .inl rfl⟩, rfl⟩
  · simp at hcs
    obtain ⟨rfl, rfl, rfl⟩ := hcs
    simp at hmm
    subst hmm
    have each : ∀ i, i < m → ∃ y : Bo, (i < len → y.b.length ≤ 140737488355328) ∧ W.cell? (ad.add (i * 3)) = some (.int .i64 y.kind) ∧ W.cell? (ad.add (i * 3 + 1)) = some (.int .i64 y.block) ∧
        (∃ v, W.cell? (ad.add (i * 3 + 2)) = some v ∧ BsV W v y.b) := by
      intro i him
      obtain ⟨cs', hc, ht⟩ := hi i him
      rw [Tryz.cellsOb] at hc
      obtain ⟨_, hcl, hat⟩ := World.cells?_some hc
      obtain ⟨xs, k, _, hagg, _, hxl, hg⟩ := DataW.trod_struct Tryz.underlying42 ht
      match cs', hcl, xs, hxl with
      | [c0, c1, c2], _, [y0, y1, y2], _ =>
        have h0 := hg 0 _ rfl
        have h1 := hg 1 _ rfl
        have h2 := hg 2 _ rfl
        obtain ⟨z0, e0, -, q0⟩ := DataW.trod_int Tryz.underlying3 h0
        obtain ⟨z1, e1, -, q1⟩ := DataW.trod_int Tryz.underlying3 h1
        have hup : i < len → ∀ j t d, [3, 3, 40][j]? = some t → [y0.1, y1.1, y2.1][j]? = some d → ∀ n ∈ DataW.weights Tryz.prog t d, n ≤ reachBytes := fun hil j t d hj hd n hn => hw n (by
          subst hx0
          simp only [DataW.weights, Tryz.underlying29, List.mem_cons, List.mem_append]
          right; left
          refine weights_mem_all (d := D i) (List.mem_map.2 ⟨i, by simpa using hil, rfl⟩) ?_
          rw [show D i = _ from congrArg Prod.fst hagg]
          simp only [DataW.weights, Tryz.underlying42]
          exact DataW.weights_mem_each hj hd n hn)
        obtain ⟨v2, l2, e2, hv2, hz2⟩ : ∃ v l, _ ∧ BsV W v l ∧ (i < len → l.length ≤ 140737488355328) := by
          by_cases hil : i < len
          · obtain ⟨v, l, e, hb, hl⟩ := bytes_sized h2 (hup hil 2 _ _ rfl rfl)
            exact ⟨v, l, e, hb, fun _ => hl⟩
          · obtain ⟨v, l, e, hb⟩ := bytes_open h2
            exact ⟨v, l, e, hb, fun h => absurd h hil⟩
        clear hup
        simp [Tryz.cellsI1, Tryz.cellsB8] at e0 e1 e2
        subst e0 e1 e2
        have g0 := hat 0 (by omega)
        have g1 := hat 1 (by omega)
        have g2 := hat 2 (by omega)
        rw [Go.Deep.add_add] at g0 g1 g2
        exact ⟨⟨z0, z1, l2⟩, hz2, by simpa using g0, by simpa using g1, ⟨_, by simpa using g2, hv2⟩⟩
    obtain ⟨l, hll, hlf⟩ := choose_any m _ each
    have hsz : ∀ y ∈ l.take len, y.b.length ≤ 140737488355328 := by
      intro f hf
      obtain ⟨j, hj, rfl⟩ := List.getElem_of_mem hf
      have hj2 : j < len := by rw [List.length_take] at hj; omega
      have := (hlf j (by omega)).1 hj2
      rw [getElem!_pos l j (by omega)] at this
      rw [List.getElem_take]
      exact this
    have htl : (l.take len).length = len := by rw [List.length_take]; omega
    refine ⟨l.take len, ⟨by omega, hsz, ?_⟩, htl⟩
    by_cases h0 : len = 0
    · subst h0; exact .inl (by simp)
    · right
      obtain ⟨b, off, spot⟩ := ad
      obtain ⟨-, c0, -⟩ := hlf 0 (by omega)
      have hspot : spot = none := by simpa [Addr.add] using World.cell?_spot c0
      subst hspot
      refine ⟨b, off, rfl, fun j hj => ?_⟩
      rw [htl] at hj
      obtain ⟨-, c0, c1, ⟨v2, c2, A, c, rfl, hlc, -, hr⟩⟩ := hlf j (by omega)
      rw [Addr.add_lit] at c0 c1 c2
      have he : (l.take len)[j]! = l[j]! := by rw [getElem!_pos _ _ (by omega), getElem!_pos _ _ (by omega), List.getElem_take]
      rw [he]
      exact ⟨c0, by simpa [Nat.add_assoc] using c1, A, c, by simpa [Nat.add_assoc] using c2, hlc, hr⟩
end Go.Proofs.YtjjggmopkfkpaaaGreat
