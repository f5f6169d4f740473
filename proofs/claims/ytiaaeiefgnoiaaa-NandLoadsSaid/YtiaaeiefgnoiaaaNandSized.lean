/-
  Operations that came in, none of more bytes than memory has.
-/
import Derived.Test.YtiaaeiefgnoiaaaNandFew
import Derived.SizedLaws
namespace Go.Proofs.Ytiaaeiefgnoiaaa
open Go.RowKit Crcm Go.ChangeShapes

theorem Try.bytesU8 : Try.prog.bytesOf 5 = 1 := by kernel_rfl
theorem weights_mem_all {H : Type} {P : Program} {e : TypeId} {d : DataW H} : ∀ {l : List (DataW H)}, d ∈ l → ∀ {n : Nat}, n ∈ d.weights P e → n ∈ DataW.weightsAll P e l
  | [], h, _, _ => by cases h
  | x :: r, h, n, hn => by
    rw [DataW.weightsAll, List.mem_append]
    rcases List.mem_cons.1 h with rfl | h
    · exact .inl hn
    · exact .inr (weights_mem_all h hn)

theorem bytes_sized {H : Type} {enc : TypeId × Value → H} {W : World} {held : Bool} {fuel : Nat} {cs : List Value} {x : DataW H × List MemPlace}
    (h : DataW.trod enc Try.prog W 0 (fun _ => true) held fuel 27 cs = some x) (hw : ∀ n ∈ x.1.weights Try.prog 27, n ≤ reachBytes) : ∃ v l, cs = [v] ∧ BsV W v l ∧ l.length ≤ 140737488355328 := by
  have hrb := reachBytes_lt
  rcases open_ints Try.underlying27 Try.underlying5 (by kernel_rfl) h with ⟨hcs, _⟩ | ⟨y, l, c, zs, hcs, _, hl2, hm2, hz, hx, hcell, hwz⟩
  · exact ⟨_, [], hcs, ⟨none, 0, rfl, Nat.le_refl _, Nat.zero_le _, Rw.nil⟩, by simp⟩
  · obtain ⟨l', hll, hlc, hr, -⟩ := (show Row8 W (some y) l c zs from .inr ⟨y, rfl, hl2, hm2, by simpa using hz, hcell, hwz⟩).rw
    have h1 := hw (zs.length * Try.prog.bytesOf 5) (by
      subst hx
      simp only [DataW.weights, Try.underlying27, List.mem_cons]
      left
      rw [← List.length_append]
      simp only [lits, ← List.map_append, List.take_append_drop, List.length_map])
    rw [Try.bytesU8, Nat.mul_one] at h1
    simp at hz
    exact ⟨_, l', hcs, ⟨some y, c, by rw [hll], by omega, hm2, hr⟩, by omega⟩


set_option maxRecDepth 100000 in
theorem faults_sized {H : Type} {enc : TypeId × Value → H} {W : World} {held : Bool} {fuel : Nat} {cs : List Value} {x : DataW H × List MemPlace}
    (h : DataW.trod enc Try.prog W 0 (fun _ => true) held fuel 28 cs = some x) (hw : ∀ n ∈ x.1.weights Try.prog 28, n ≤ reachBytes) : ∃ v fl, cs = [v] ∧ FsV W v fl ∧ ∀ f ∈ fl, f.data.length ≤ 140737488355328 := by
  rcases Go.Deep.open_slice Try.underlying28 h with ⟨hcs, _⟩ | ⟨ad, ln, cp, m, n, D, Pl, hcs, _, hl, hm, hmm, hx0, hi⟩
  · exact ⟨_, [], hcs, ⟨none, 0, rfl, Nat.le_refl _, Nat.zero_le _, FlAt.nil, by simp⟩, by simp⟩
  · simp at hmm
    subst hmm
    have each : ∀ i, i < m → ∃ y : Fl, ((Lit.int .i64 y.at').wf = true ∧ (Lit.int .i64 y.kind).wf = true) ∧ (i < ln → y.data.length ≤ 140737488355328) ∧ W.cell? (ad.add (i * 3)) = some (.int .i64 y.at') ∧ W.cell? (ad.add (i * 3 + 1)) = some (.int .i64 y.kind) ∧
        ∃ v, W.cell? (ad.add (i * 3 + 2)) = some v ∧ BsV W v y.data := by
      intro i him
      obtain ⟨cs', hc, ht⟩ := hi i him
      rw [Try.cellsF3] at hc
      obtain ⟨_, hcl, hat⟩ := World.cells?_some hc
      obtain ⟨xs, k, _, hagg, _, hxl, hg⟩ := DataW.trod_struct Try.underlying66 ht
      match cs', hcl, xs, hxl with
      | [c0, c1, c2], _, [y0, y1, y2], _ =>
        have h0 := hg 0 _ rfl
        have h1 := hg 1 _ rfl
        have h2 := hg 2 _ rfl
        obtain ⟨z0, e0, -, q0⟩ := DataW.trod_int Try.underlying3 h0
        obtain ⟨z1, e1, -, q1⟩ := DataW.trod_int Try.underlying3 h1
        obtain ⟨v2, l2, e2, hv2⟩ := bytes_open h2
        have hs2 : i < ln → ∃ v l, _ ∧ BsV W v l ∧ l.length ≤ 140737488355328 := fun hil => bytes_sized h2 (fun n hn => hw n (by
          subst hx0
          simp only [DataW.weights, Try.underlying28, List.mem_cons, List.mem_append]
          right; left
          refine weights_mem_all (d := D i) (List.mem_map.2 ⟨i, by simpa using hil, rfl⟩) ?_
          rw [show D i = _ from congrArg Prod.fst hagg]
          simp only [DataW.weights, Try.underlying66]
          exact DataW.weights_mem_each (j := 2) rfl rfl n hn))
        simp [Try.cellsI1, Try.cellsB8] at e0 e1 e2
        subst e0 e1 e2
        have hs3 : i < ln → l2.length ≤ 140737488355328 := fun hil => by
          obtain ⟨v, l, e, hb, hl⟩ := hs2 hil
          simp [Try.cellsB8] at e
          subst e
          obtain ⟨_, _, h3, -⟩ := hb
          obtain ⟨_, _, h4, -⟩ := hv2
          rw [h4] at h3
          injection h3 with _ h5
          omega
        have g0 := hat 0 (by omega)
        have g1 := hat 1 (by omega)
        have g2 := hat 2 (by omega)
        rw [Go.Deep.add_add] at g0 g1 g2
        exact ⟨⟨z0, z1, l2⟩, ⟨q0, q1⟩, hs3, by simpa using g0, by simpa using g1, _, by simpa using g2, hv2⟩
    obtain ⟨fl, hll, hlf⟩ := choose_any m _ each
    have hwf : ∀ f ∈ fl.take ln, (Lit.int .i64 f.at').wf = true ∧ (Lit.int .i64 f.kind).wf = true := by
      intro f hf
      obtain ⟨j, hj, rfl⟩ := List.getElem_of_mem (List.mem_of_mem_take hf)
      have := (hlf j (by omega)).1
      rw [getElem!_pos (c := fl) (i := j) (h := hj)] at this
      exact this
    have hsz : ∀ f ∈ fl.take ln, f.data.length ≤ 140737488355328 := by
      intro f hf
      obtain ⟨j, hj, rfl⟩ := List.getElem_of_mem hf
      have hj2 : j < ln := by rw [List.length_take] at hj; omega
      have := (hlf j (by omega)).2.1 hj2
      rw [getElem!_pos fl j (by omega)] at this
      rw [List.getElem_take]
      exact this
    have htl : (fl.take ln).length = ln := by rw [List.length_take]; omega
    refine ⟨_, fl.take ln, hcs, ⟨some ad, m, by rw [htl], by omega, hm, ⟨some ad, m, by rw [htl], by omega, ?_⟩, hwf⟩, hsz⟩
    by_cases h0 : ln = 0
    · subst h0; exact .inl (by simp)
    · right
      obtain ⟨b, off, spot⟩ := ad
      obtain ⟨-, -, c0, -⟩ := hlf 0 (by omega)
      have hspot : spot = none := by simpa [Addr.add] using World.cell?_spot c0
      subst hspot
      refine ⟨b, off, rfl, fun hf => hf, fun j hj => ?_⟩
      rw [htl] at hj
      obtain ⟨-, -, c0, c1, v, c2, A, c, rfl, hlc, -, hr⟩ := hlf j (by omega)
      rw [getElem!_pos _ _ (by omega)] at c0 c1 c2 hlc hr
      rw [Addr.add_lit] at c0 c1 c2
      rw [List.getElem_take]
      exact ⟨c0, by simpa [Nat.add_assoc] using c1, A, c, by simpa [Nat.add_assoc] using c2, ⟨hr, fun _ _ _ _ _ hf => hf⟩, hlc⟩


set_option maxRecDepth 100000 in
theorem ops_sized {H : Type} {enc : TypeId × Value → H} {W : World} {held : Bool} {fuel : Nat} {cs : List Value} {x : DataW H × List MemPlace}
    (h : DataW.trod enc Try.prog W 0 (fun _ => true) held fuel 33 cs = some x) (hw : ∀ n ∈ x.1.weights Try.prog 33, n ≤ reachBytes) : ∃ a l c, cs = [.slice a l.length c] ∧ l.length ≤ c ∧ c ≤ maxLen ∧ Ro W a l ∧ ∀ y ∈ l, SzO y := by
  rcases Go.Deep.open_slice Try.underlying33 h with ⟨hcs, _⟩ | ⟨ad, ln, cp, m, n, D, Pl, hcs, _, hl, hm, hmm, hx0, hi⟩
  · exact ⟨none, [], 0, hcs, Nat.le_refl _, Nat.zero_le _, ⟨Nat.zero_le _, by simp, .inl rfl⟩, by simp⟩
  · simp at hmm
    subst hmm
    have each : ∀ i, i < m → ∃ y : Oz, OzW y ∧ (i < ln → SzO y) ∧ W.cell? (ad.add (i * 5)) = some (.int .i64 y.kind) ∧ W.cell? (ad.add (i * 5 + 1)) = some (.int .i64 y.block) ∧ W.cell? (ad.add (i * 5 + 2)) = some (.int .i64 y.page) ∧
        (∃ v, W.cell? (ad.add (i * 5 + 3)) = some v ∧ BsV W v y.b) ∧ (∃ v, W.cell? (ad.add (i * 5 + 4)) = some v ∧ FsV W v y.fl) := by
      intro i him
      obtain ⟨cs', hc, ht⟩ := hi i him
      rw [Try.cellsO5] at hc
      obtain ⟨_, hcl, hat⟩ := World.cells?_some hc
      obtain ⟨xs, k, _, hagg, _, hxl, hg⟩ := DataW.trod_struct Try.underlying30 ht
      match cs', hcl, xs, hxl with
      | [c0, c1, c2, c3, c4], _, [y0, y1, y2, y3, y4], _ =>
        have h0 := hg 0 _ rfl
        have h1 := hg 1 _ rfl
        have h2 := hg 2 _ rfl
        have h3 := hg 3 _ rfl
        have h4 := hg 4 _ rfl
        obtain ⟨z0, e0, -, q0⟩ := DataW.trod_int Try.underlying3 h0
        obtain ⟨z1, e1, -, q1⟩ := DataW.trod_int Try.underlying3 h1
        obtain ⟨z2, e2, -, q2⟩ := DataW.trod_int Try.underlying3 h2
        have hup : i < ln → ∀ j t d, [3, 3, 3, 27, 28][j]? = some t → [y0.1, y1.1, y2.1, y3.1, y4.1][j]? = some d → ∀ n ∈ DataW.weights Try.prog t d, n ≤ reachBytes := fun hil j t d hj hd n hn => hw n (by
          subst hx0
          simp only [DataW.weights, Try.underlying33, List.mem_cons, List.mem_append]
          right; left
          refine weights_mem_all (d := D i) (List.mem_map.2 ⟨i, by simpa using hil, rfl⟩) ?_
          rw [show D i = _ from congrArg Prod.fst hagg]
          simp only [DataW.weights, Try.underlying30]
          exact DataW.weights_mem_each hj hd n hn)
        obtain ⟨v3, l3, e3, hv3, hz3⟩ : ∃ v l, _ ∧ BsV W v l ∧ (i < ln → l.length ≤ 140737488355328) := by
          by_cases hil : i < ln
          · obtain ⟨v, l, e, hb, hl⟩ := bytes_sized h3 (hup hil 3 _ _ rfl rfl)
            exact ⟨v, l, e, hb, fun _ => hl⟩
          · obtain ⟨v, l, e, hb⟩ := bytes_open h3
            exact ⟨v, l, e, hb, fun h => absurd h hil⟩
        obtain ⟨v4, l4, e4, hv4, hz4⟩ : ∃ v fl, _ ∧ FsV W v fl ∧ (i < ln → ∀ f ∈ fl, f.data.length ≤ 140737488355328) := by
          by_cases hil : i < ln
          · obtain ⟨v, l, e, hb, hl⟩ := faults_sized h4 (hup hil 4 _ _ rfl rfl)
            exact ⟨v, l, e, hb, fun _ => hl⟩
          · obtain ⟨v, l, e, hb⟩ := faults_open h4
            exact ⟨v, l, e, hb, fun h => absurd h hil⟩
        clear hup
        simp [Try.cellsI1, Try.cellsB8, Try.cellsFs] at e0 e1 e2 e3 e4
        subst e0 e1 e2 e3 e4
        have g0 := hat 0 (by omega)
        have g1 := hat 1 (by omega)
        have g2 := hat 2 (by omega)
        have g3 := hat 3 (by omega)
        have g4 := hat 4 (by omega)
        rw [Go.Deep.add_add] at g0 g1 g2 g3 g4
        exact ⟨⟨z0, z1, z2, l3, l4⟩, ⟨q0, q1, q2⟩, fun hil => ⟨hz3 hil, hz4 hil⟩, by simpa using g0, by simpa using g1, by simpa using g2, ⟨_, by simpa using g3, hv3⟩, ⟨_, by simpa using g4, hv4⟩⟩
    obtain ⟨l, hll, hlf⟩ := choose_any m _ each
    have hwf : ∀ y ∈ l.take ln, OzW y := by
      intro f hf
      obtain ⟨j, hj, rfl⟩ := List.getElem_of_mem (List.mem_of_mem_take hf)
      have := (hlf j (by omega)).1
      rw [getElem!_pos (c := l) (i := j) (h := hj)] at this
      exact this
    have hsz : ∀ y ∈ l.take ln, SzO y := by
      intro f hf
      obtain ⟨j, hj, rfl⟩ := List.getElem_of_mem hf
      have hj2 : j < ln := by rw [List.length_take] at hj; omega
      have := (hlf j (by omega)).2.1 hj2
      rw [getElem!_pos l j (by omega)] at this
      rw [List.getElem_take]
      exact this
    have htl : (l.take ln).length = ln := by rw [List.length_take]; omega
    refine ⟨some ad, l.take ln, m, by rw [htl]; exact hcs, by omega, hm, ⟨by omega, hwf, ?_⟩, hsz⟩
    by_cases h0 : ln = 0
    · subst h0; exact .inl (by simp)
    · right
      obtain ⟨b, off, spot⟩ := ad
      obtain ⟨-, -, c0, -⟩ := hlf 0 (by omega)
      have hspot : spot = none := by simpa [Addr.add] using World.cell?_spot c0
      subst hspot
      refine ⟨b, off, rfl, fun j hj => ?_⟩
      rw [htl] at hj
      obtain ⟨-, -, c0, c1, c2, ⟨v3, c3, h3⟩, ⟨v4, c4, h4⟩⟩ := hlf j (by omega)
      rw [Addr.add_lit] at c0 c1 c2 c3 c4
      have he : (l.take ln)[j]! = l[j]! := by rw [getElem!_pos _ _ (by omega), getElem!_pos _ _ (by omega), List.getElem_take]
      rw [he]
      exact ⟨c0, by simpa [Nat.add_assoc] using c1, by simpa [Nat.add_assoc] using c2, ⟨v3, by simpa [Nat.add_assoc] using c3, h3⟩, ⟨v4, by simpa [Nat.add_assoc] using c4, h4⟩⟩

/-- a row of numbers that came in -/
theorem ints_ri {H : Type} {enc : TypeId × Value → H} {W : World} {held : Bool} {fuel : Nat} {a : Option Addr} {len cap : Nat} {x : DataW H × List MemPlace}
    (h : DataW.trod enc Try.prog W 0 (fun _ => true) held fuel 26 [.slice a len cap] = some x) : ∃ l : List Int, Ri W a l ∧ l.length = len := by
  rcases open_ints Try.underlying26 Try.underlying3 (by kernel_rfl) h with ⟨hcs, _⟩ | ⟨y, l, c, zs, hcs, _, hl2, hm2, hz, _, hcell, hwz⟩
  · simp at hcs
    obtain ⟨rfl, rfl, rfl⟩ := hcs
    exact ⟨[], Ri.nil, rfl⟩
  · simp at hcs
    obtain ⟨rfl, rfl, rfl⟩ := hcs
    simp at hz
    have htl : (zs.take len).length = len := by rw [List.length_take]; omega
    refine ⟨zs.take len, ⟨by omega, ?_⟩, htl⟩
    by_cases h0 : len = 0
    · subst h0; exact .inl (by simp)
    · right
      obtain ⟨b, off, spot⟩ := y
      have c0 := hcell 0 (by omega)
      have hspot : spot = none := by simpa [Addr.add] using World.cell?_spot c0
      subst hspot
      refine ⟨b, off, rfl, fun j hj => ?_⟩
      rw [htl] at hj
      have := hcell j (by omega)
      rw [Addr.add_lit] at this
      rw [List.getElem_take]
      simpa [List.getD_eq_getElem?_getD, show j < zs.length by omega] using this
end Go.Proofs.Ytiaaeiefgnoiaaa
