/-
  Operations that came in, none of more bytes than memory has; the law HistWrites as the frame hands its argument.
-/
import Derived.Test.YthngpmiclbbpnaaGreatHistA
import Derived.SizedLaws
import Derived.Deep.Slices
import Derived.Deep.Grids
namespace Go.Proofs.YthngpmiclbbpnaaGreat
open Go.RowKit Crcm Go.ChangeShapes

theorem Tryz.bytesU8 : Tryz.prog.bytesOf 5 = 1 := by kernel_rfl
theorem Tryz.cellsI1 : Tryz.prog.cellsOf 3 = 1 := by kernel_rfl
theorem Tryz.cellsI8 : Tryz.prog.cellsOf 2 = 1 := by kernel_rfl
theorem Tryz.cellsSt : Tryz.prog.cellsOf 9 = 1 := by kernel_rfl
theorem Tryz.cellsB8 : Tryz.prog.cellsOf 23 = 1 := by kernel_rfl
theorem Tryz.cellsH7 : Tryz.prog.cellsOf 36 = 7 := by kernel_rfl
theorem weights_mem_all {H : Type} {P : Program} {e : TypeId} {d : DataW H} : ∀ {l : List (DataW H)}, d ∈ l → ∀ {n : Nat}, n ∈ d.weights P e → n ∈ DataW.weightsAll P e l
  | [], h, _, _ => by cases h
  | x :: r, h, n, hn => by
    rw [DataW.weightsAll, List.mem_append]
    rcases List.mem_cons.1 h with rfl | h
    · exact .inl hn
    · exact .inr (weights_mem_all h hn)
theorem choose_ho (m : Nat) (p : Nat → Ho → Prop) (h : ∀ i, i < m → ∃ x, p i x) : ∃ l : List Ho, l.length = m ∧ ∀ i, i < m → p i l[i]! := by
  obtain ⟨f, hf⟩ := Go.Deep.choose_lt h
  refine ⟨(List.range m).map f, by simp, fun i hi => ?_⟩
  rw [getElem!_pos _ _ (by simpa using hi)]
  simpa using hf i hi
theorem hbytes_sized {H : Type} {enc : TypeId × Value → H} {W : World} {held : Bool} {fuel : Nat} {cs : List Value} {x : DataW H × List MemPlace}
    (h : DataW.trod enc Tryz.prog W 0 (fun _ => true) held fuel 23 cs = some x) (hw : ∀ n ∈ x.1.weights Tryz.prog 23, n ≤ reachBytes) : ∃ A c l, cs = [.slice A l.length c] ∧ l.length ≤ c ∧ Rw W A l ∧ l.length ≤ 140737488355328 := by
  have hrb := reachBytes_lt
  rcases open_ints Tryz.underlying23 Tryz.underlying5 (by kernel_rfl) h with ⟨hcs, _⟩ | ⟨y, l, c, zs, hcs, _, hl2, hm2, hz, hx, hcell, hwz⟩
  · exact ⟨none, 0, [], hcs, Nat.le_refl _, Rw.nil, by simp⟩
  · obtain ⟨l', hll, hlc, hr, -⟩ := (show Row8 W (some y) l c zs from .inr ⟨y, rfl, hl2, hm2, by simpa using hz, hcell, hwz⟩).rw
    have h1 := hw (zs.length * Tryz.prog.bytesOf 5) (by
      subst hx
      simp only [DataW.weights, Tryz.underlying23, List.mem_cons]
      left
      rw [← List.length_append]
      simp only [lits, ← List.map_append, List.take_append_drop, List.length_map])
    rw [Tryz.bytesU8, Nat.mul_one] at h1
    simp at hz
    exact ⟨some y, c, l', by rw [hll]; exact hcs, by omega, hr, by omega⟩

set_option maxRecDepth 100000 in
theorem hops_sized {H : Type} {enc : TypeId × Value → H} {W : World} {held : Bool} {fuel : Nat} {cs : List Value} {x : DataW H × List MemPlace}
    (h : DataW.trod enc Tryz.prog W 0 (fun _ => true) held fuel 22 cs = some x) (hw : ∀ n ∈ x.1.weights Tryz.prog 22, n ≤ reachBytes) : ∃ a l c, cs = [.slice a l.length c] ∧ l.length ≤ maxLen ∧ HR W a l ∧ ∀ y ∈ l, SzH y := by
  have hrb := reachBytes_lt
  rcases Go.Deep.open_slice Tryz.underlying22 h with ⟨hcs, _⟩ | ⟨ad, ln, cp, m, n, D, Pl, hcs, _, hl, hm, hmm, hx0, hi⟩
  · exact ⟨none, [], 0, hcs, Nat.zero_le _, .inl rfl, by simp⟩
  · simp at hmm
    subst hmm
    have each : ∀ i, i < ln → ∃ y : Ho, SzH y ∧ W.cell? (ad.add (i * 7)) = some (.int .i64 y.kind) ∧ W.cell? (ad.add (i * 7 + 1)) = some (.string y.path) ∧ W.cell? (ad.add (i * 7 + 2)) = some (.string y.to) ∧ W.cell? (ad.add (i * 7 + 3)) = some (.int .i64 y.handle) ∧
        W.cell? (ad.add (i * 7 + 4)) = some (.int .i64 y.n) ∧ W.cell? (ad.add (i * 7 + 5)) = some (.int .i64 y.off) ∧ ∃ A c, W.cell? (ad.add (i * 7 + 6)) = some (.slice A y.b.length c) ∧ y.b.length ≤ c ∧ Rw W A y.b := by
      intro i hil
      obtain ⟨cs', hc, ht⟩ := hi i (by omega)
      rw [Tryz.cellsH7] at hc
      obtain ⟨_, hcl, hat⟩ := World.cells?_some hc
      obtain ⟨xs, k, _, hagg, _, hxl, hg⟩ := DataW.trod_struct Tryz.underlying36 ht
      match cs', hcl, xs, hxl with
      | [c0, c1, c2, c3, c4, c5, c6], _, [y0, y1, y2, y3, y4, y5, y6], _ =>
        have h0 := hg 0 _ rfl
        have h1 := hg 1 _ rfl
        have h2 := hg 2 _ rfl
        have h3 := hg 3 _ rfl
        have h4 := hg 4 _ rfl
        have h5 := hg 5 _ rfl
        have h6 := hg 6 _ rfl
        obtain ⟨z0, e0, -, q0⟩ := DataW.trod_int Tryz.underlying3 h0
        obtain ⟨s1, e1, x1, q1⟩ := DataW.trod_string Tryz.underlying9 h1
        obtain ⟨s2, e2, x2, q2⟩ := DataW.trod_string Tryz.underlying9 h2
        obtain ⟨z3, e3, -, q3⟩ := DataW.trod_int Tryz.underlying3 h3
        obtain ⟨z4, e4, -, q4⟩ := DataW.trod_int Tryz.underlying3 h4
        obtain ⟨z5, e5, -, q5⟩ := DataW.trod_int Tryz.underlying2 h5
        have r5 : -9223372036854775808 ≤ z5 ∧ z5 ≤ 9223372036854775807 := by simpa [Lit.wf, IntKind.min, IntKind.max, IntKind.signed, IntKind.bits] using q5
        have hup : ∀ j t d, [3, 9, 9, 3, 3, 2, 23][j]? = some t → [y0.1, y1.1, y2.1, y3.1, y4.1, y5.1, y6.1][j]? = some d → ∀ n ∈ DataW.weights Tryz.prog t d, n ≤ reachBytes := fun j t d hj hd n hn => hw n (by
          subst hx0
          simp only [DataW.weights, Tryz.underlying22, List.mem_cons, List.mem_append]
          right; left
          refine weights_mem_all (d := D i) (List.mem_map.2 ⟨i, by simpa using hil, rfl⟩) ?_
          rw [show D i = _ from congrArg Prod.fst hagg]
          simp only [DataW.weights, Tryz.underlying36]
          exact DataW.weights_mem_each hj hd n hn)
        have w1 := hup 1 _ _ rfl rfl s1.size (by rw [show y1.1 = _ from congrArg Prod.fst x1]; simp [DataW.weights])
        have w2 := hup 2 _ _ rfl rfl s2.size (by rw [show y2.1 = _ from congrArg Prod.fst x2]; simp [DataW.weights])
        obtain ⟨A, c, l6, e6, hlc, hr6, hz6⟩ := hbytes_sized h6 (hup 6 _ _ rfl rfl)
        clear hup
        simp [Tryz.cellsI1, Tryz.cellsI8, Tryz.cellsSt, Tryz.cellsB8] at e0 e1 e2 e3 e4 e5 e6
        subst e0 e1 e2 e3 e4 e5 e6
        have g0 := hat 0 (by omega)
        have g1 := hat 1 (by omega)
        have g2 := hat 2 (by omega)
        have g3 := hat 3 (by omega)
        have g4 := hat 4 (by omega)
        have g5 := hat 5 (by omega)
        have g6 := hat 6 (by omega)
        rw [Go.Deep.add_add] at g0 g1 g2 g3 g4 g5 g6
        exact ⟨⟨z0, s1, s2, z3, z4, z5, l6⟩, ⟨by show s1.size ≤ _; omega, by show s2.size ≤ _; omega, hz6, r5.1, r5.2⟩, by simpa using g0, by simpa using g1, by simpa using g2, by simpa using g3, by simpa using g4, by simpa using g5, A, c, by simpa using g6, hlc, hr6⟩
    obtain ⟨l, hll, hlf⟩ := choose_ho ln _ each
    have hsz : ∀ y ∈ l, SzH y := by
      intro f hf
      obtain ⟨j, hj, rfl⟩ := List.getElem_of_mem hf
      have := (hlf j (by omega)).1
      rwa [getElem!_pos l j hj] at this
    refine ⟨some ad, l, m, by rw [hll]; exact hcs, by omega, ?_, hsz⟩
    by_cases h0 : ln = 0
    · exact .inl (List.eq_nil_of_length_eq_zero (by omega))
    · right
      obtain ⟨b, off, spot⟩ := ad
      obtain ⟨-, c0, -⟩ := hlf 0 (by omega)
      have hspot : spot = none := by simpa [Addr.add] using World.cell?_spot c0
      subst hspot
      refine ⟨b, off, rfl, fun j hj => ?_⟩
      obtain ⟨-, c0, c1, c2, c3, c4, c5, A, c, c6, h7, h8⟩ := hlf j (by omega)
      rw [Addr.add_lit] at c0 c1 c2 c3 c4 c5 c6
      exact ⟨c0, by simpa [Nat.add_assoc] using c1, by simpa [Nat.add_assoc] using c2, by simpa [Nat.add_assoc] using c3, by simpa [Nat.add_assoc] using c4, by simpa [Nat.add_assoc] using c5, A, c, by simpa [Nat.add_assoc] using c6, h7, h8⟩

end Go.Proofs.YthngpmiclbbpnaaGreat
