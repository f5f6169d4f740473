/-
  Operations' bytes read: all operations. Nothing of one statement alone stands here.
-/
import Derived.Test.YthngpmiclbbpnaaGreatHistZ
namespace Go.Proofs.YthngpmiclbbpnaaGreat
open Go.RowKit Crcm Tagm Go.ChangeShapes

/-- an operation with where its bytes lie -/
abbrev Hx := Ho × Option Addr × Nat
def oc (x : Hx) : List Value := [.int .i64 x.1.kind, .string x.1.path, .string x.1.to, .int .i64 x.1.handle, .int .i64 x.1.n, .int .i64 x.1.off, .slice x.2.1 x.1.b.length x.2.2]
def ofl : List Hx → List Value
  | [] => []
  | x :: r => oc x ++ ofl r
theorem ofl_length (l : List Hx) : (ofl l).length = l.length * 7 := by
  induction l with
  | nil => rfl
  | cons x r ih => simp [ofl, oc, ih]; omega
theorem ofl_append (l r : List Hx) : ofl (l ++ r) = ofl l ++ ofl r := by
  induction l with
  | nil => rfl
  | cons x l ih => simp [ofl, ih]
theorem ofl_at (l : List Hx) (j : Nat) (h : j < l.length) (i : Nat) (hi : i < 7) : (ofl l)[j * 7 + i]? = (oc l[j])[i]? := by
  induction l generalizing j with
  | nil => simp at h
  | cons x r ih =>
    cases j with
    | zero => rw [ofl, List.getElem?_append_left (by simp [oc]; omega)]; simp
    | succ j =>
      rw [ofl, List.getElem?_append_right (by simp [oc]; omega)]
      have e : (j + 1) * 7 + i - (oc x).length = j * 7 + i := by simp [oc]; omega
      rw [e, ih j (by simpa using h)]
      rfl
/-- a row of operations of the call's own -/
def Rt (w : World) (B : Nat) (v : Value) (L : List Ho) : Prop :=
  ∃ xs : List Hx, xs.map (·.1) = L ∧ w.ownsRow B 41 7 v L.length (ofl xs) ∧ ∀ x ∈ xs, x.1.b.length ≤ x.2.2 ∧ Ry w B x.2.1 x.1.b
theorem Rt.nil (w : World) (B : Nat) : Rt w B (.slice none 0 0) [] := ⟨[], rfl, World.ownsRow_nil w B _ _, fun x hx => by cases hx⟩
theorem Rt.keep {w w' : World} {B : Nat} {v : Value} {L : List Ho} (h : Rt w B v L) (hk : ∀ b, B ≤ b → b < w.heap.size → w'.heap[b]? = w.heap[b]?) : Rt w' B v L := by
  obtain ⟨xs, h1, ⟨h2, h3⟩, h4⟩ := h
  refine ⟨xs, h1, ⟨h2, ?_⟩, fun x hx => ⟨(h4 x hx).1, (h4 x hx).2.keep fun b _ g1 g2 => hk b g1 g2.lt⟩⟩
  rcases h3 with h3 | ⟨g, cap, cur, e, hg, hh, r⟩
  · exact .inl h3
  · have hB : Blk w g 41 cur := hh
    exact .inr ⟨g, cap, cur, e, hg, (hk g hg hB.lt).trans hh, r⟩
theorem Rt.ko {R : Nat} {w w' : World} {B : Nat} {v : Value} {L : List Ho} (h : Rt w B v L) (hk : Ko R w w') (hR : R < B) : Rt w' B v L := h.keep fun b h1 h2 => hk.block b h2 (by omega)
theorem Rt.below {w w' : World} {B : Nat} {v : Value} {L : List Ho} (h : Rt w B v L) (hb : Below w.heap.size w w') : Rt w' B v L := h.keep fun b _ h2 => hb.block b h2
/-- such a row is a row of operations -/
theorem Rt.hr {w : World} {B : Nat} {v : Value} {L : List Ho} (h : Rt w B v L) : ∃ a c, v = .slice a L.length c ∧ L.length ≤ c ∧ HR w a L := by
  obtain ⟨xs, h1, ⟨h2, h3⟩, h4⟩ := h
  have hl : xs.length = L.length := by rw [← h1, List.length_map]
  rcases h3 with ⟨e, h0⟩ | ⟨g, cap, cur, e, hg, hh, hn, hm, hsz, ht⟩
  · exact ⟨none, 0, by rw [e, h0], by omega, .inl (List.eq_nil_of_length_eq_zero h0)⟩
  · refine ⟨_, cap, e, hn, .inr ⟨g, 0, rfl, fun j hj => ?_⟩⟩
    have hj2 : j < xs.length := by omega
    have hB : Blk w g 41 cur := hh
    have ee : ∀ i, i < 7 → cur[j * 7 + i]? = (oc xs[j])[i]? := fun i hi => by rw [← ofl_at xs j hj2 i hi, ← ht, List.getElem?_take, if_pos (by omega), Array.getElem?_toList]
    have hx := h4 xs[j] (List.getElem_mem hj2)
    have eL : L[j]! = xs[j].1 := by subst h1; rw [getElem!_pos (xs.map (·.1)) j hj, List.getElem_map]
    rw [eL, Nat.zero_add]
    exact ⟨(hB.cell _).trans (ee 0 (by omega)), (hB.cell _).trans (ee 1 (by omega)), (hB.cell _).trans (ee 2 (by omega)), (hB.cell _).trans (ee 3 (by omega)), (hB.cell _).trans (ee 4 (by omega)), (hB.cell _).trans (ee 5 (by omega)), xs[j].2.1, xs[j].2.2, (hB.cell _).trans (ee 6 (by omega)), hx.1, hx.2.1⟩

theorem Tryz.infoO : (Tryz.prog.info? 41).map (fun i => (i.zero, i.size, i.bytes)) = some (some (.agg #[.int .i64 0, .string ⟨#[]⟩, .string ⟨#[]⟩, .int .i64 0, .int .i64 0, .int .i64 0, .slice none 0 0]), 7, 88) := by kernel_rfl
theorem infoO_parts : ∃ i, Tryz.prog.info? 41 = some i ∧ i.zero = some (.agg #[.int .i64 0, .string ⟨#[]⟩, .string ⟨#[]⟩, .int .i64 0, .int .i64 0, .int .i64 0, .slice none 0 0]) ∧ i.size = 7 ∧ i.bytes = 88 := by
  have h := Tryz.infoO
  cases hi : Tryz.prog.info? 41 with
  | none => rw [hi] at h; cases h
  | some i =>
    rw [hi] at h
    simp only [Option.map_some, Option.some.injEq, Prod.mk.injEq] at h
    exact ⟨i, rfl, h.1, h.2.1, h.2.2⟩
/-- append of one operation that lies in a new block onto such a row -/
theorem append_op {w : World} {ops : Array Oper} {rest : List Oper} {o : Oper} {a : Act} {Q : Exit → Act → World → Prop} (hgd : o.guard = none) (s x : Operand)
    (ho : o.op = .call { callee := .builtin .append, args := #[s, x], argTypes := #[29, 29] })
    (B : Nat) (v : Value) (L : List Ho) (hs : a.eval s = v) (hown : Rt w B v L)
    (b c : Nat) (y : Hx) (hx : a.eval x = .slice (some ⟨b, 0, none⟩) 1 c) (hk : L.length ≤ 1000000) (hb : Blk w b 41 #[.int .i64 y.1.kind, .string y.1.path, .string y.1.to, .int .i64 y.1.handle, .int .i64 y.1.n, .int .i64 y.1.off, .slice y.2.1 y.1.b.length y.2.2]) (hy : y.1.b.length ≤ y.2.2 ∧ Ry w B y.2.1 y.1.b) (hbase : B ≤ w.heap.size)
    (h : ∀ v' w', Rt w' B v' (L ++ [y.1]) → Below B w w' → wpList Tryz.prog ops Q rest (a.put o.dst v') w') : wpList Tryz.prog ops Q (o :: rest) a w := by
  obtain ⟨i0, hi, hz0, hz1, hz2⟩ := infoO_parts
  obtain ⟨xs, h1, h2, h4⟩ := hown
  refine wpList_append_own w hgd s x 29 ho B 41 i0 _ 7 88 Tryz.underlying29 hi hz0 hz1 hz2 rfl (by decide) v L.length _ hs h2 ⟨b, 0, none⟩ 1 c (oc y) hx rfl ?_ ?_ (by unfold maxLen; omega) (by omega) hbase ?_
  · intro j u hu
    rw [Addr.add_lit, Nat.zero_add]
    rw [hb.cell]
    simpa [oc] using hu
  · intro u hu
    simp only [oc, List.mem_cons, List.not_mem_nil, or_false] at hu
    rcases hu with rfl | rfl | rfl | rfl | rfl | rfl | rfl <;> rfl
  · intro v' w' g1 g2 _
    have hne : ∀ b' cs, Blk w b' 5 cs → some b' ≠ v.ownBlock := by
      intro b' cs hb' e
      rcases h2.2 with ⟨e1, -⟩ | ⟨g, cap, cur, e1, hg, hh, -⟩
      · rw [e1] at e; cases e
      · rw [e1] at e
        injection e with e
        subst e
        have := hb'.symm.trans hh
        injection this with this
        injection this with t1 t2
        exact absurd t2 (by decide)
    refine h v' w' ⟨xs ++ [y], by rw [List.map_append, h1]; rfl, ?_, ?_⟩ ((Below.refl _ w).grown g2 hbase (fun g hg => (World.ownsRow.lt h2 g hg).1))
    · rw [ofl_append, List.length_append]
      simpa [ofl] using g1
    · intro z hz
      have hz2 : z.1.b.length ≤ z.2.2 ∧ Ry w B z.2.1 z.1.b := by
        rcases List.mem_append.1 hz with hz | hz
        · exact h4 z hz
        · rw [List.mem_singleton.1 hz]; exact hy
      exact ⟨hz2.1, hz2.2.keep fun b' cs _ g4 => g2.block b' g4.lt (hne b' cs g4)⟩

/-- what taking all operations comes to -/
def AllP (w : World) (R : Nat) (l : List Int) (e : Ending) (w' : World) : Prop :=
  (∀ L, allB l = some L → ∃ v, e = .returned v ∧ Rt w' w.heap.size v L) ∧ (allB l = none → e = pE) ∧ Ko R w w'
theorem AllP.no {w w' : World} {R : Nat} {l : List Int} (h : allB l = none) (hk : Ko R w w') : AllP w R l pE w' := ⟨fun L g => (by rw [h] at g; cases g), fun _ => rfl, hk⟩
theorem AllP.yes {w w' : World} {R : Nat} {l : List Int} {L : List Ho} {v : Value} (h : allB l = some L) (hr : Rt w' w.heap.size v L) (hk : Ko R w w') : AllP w R l (.returned v) w' :=
  ⟨fun L' g => by obtain rfl := Option.some.inj (h.symm.trans g); exact ⟨v, rfl, hr⟩, fun g => (by rw [h] at g; cases g), hk⟩

end Go.Proofs.YthngpmiclbbpnaaGreat
