/-
  Operations' bytes read, as the document tells it: rows of the document's operations. Nothing of one statement alone stands here.
-/
import Derived.Test.YtcpoicplhkkjnaaGreatHistRo
namespace Go.Proofs.YtcpoicplhkkjnaaGreat
open Go.RowKit Crcm Tagm Go.ChangeShapes

/-- a row of the document's operations of the call's own, whose bytes lie where they lay at w0 -/
def Rt2 (w0 w : World) (B : Nat) (v : Value) (L : List Ho) : Prop :=
  ∃ xs : List Hx, xs.map (·.1) = L ∧ w.ownsRow B 48 7 v L.length (ofl xs) ∧ ∀ x ∈ xs, x.1.b.length ≤ x.2.2 ∧ Rw w0 x.2.1 x.1.b
theorem Rt2.nil (w0 w : World) (B : Nat) : Rt2 w0 w B (.slice none 0 0) [] := ⟨[], rfl, World.ownsRow_nil w B _ _, fun x hx => by cases hx⟩
theorem Rt2.below {w0 w w' : World} {B : Nat} {v : Value} {L : List Ho} (h : Rt2 w0 w B v L) (hb : Below w.heap.size w w') : Rt2 w0 w' B v L := by
  obtain ⟨xs, h1, ⟨h2, h3⟩, h4⟩ := h
  refine ⟨xs, h1, ⟨h2, ?_⟩, h4⟩
  rcases h3 with h3 | ⟨g, cap, cur, e, hg, hh, r⟩
  · exact .inl h3
  · have hB : Blk w g 48 cur := hh
    exact .inr ⟨g, cap, cur, e, hg, (hb.block g hB.lt).trans hh, r⟩
theorem Rt2.hr {w0 w : World} {B : Nat} {v : Value} {L : List Ho} (h : Rt2 w0 w B v L) (hb : Below w0.heap.size w0 w) : ∃ a c, v = .slice a L.length c ∧ L.length ≤ c ∧ HR w a L := by
  obtain ⟨xs, h1, ⟨h2, h3⟩, h4⟩ := h
  have hl : xs.length = L.length := by rw [← h1, List.length_map]
  rcases h3 with ⟨e, h0⟩ | ⟨g, cap, cur, e, hg, hh, hn, hm, hsz, ht⟩
  · exact ⟨none, 0, by rw [e, h0], by omega, .inl (List.eq_nil_of_length_eq_zero h0)⟩
  · refine ⟨_, cap, e, hn, .inr ⟨g, 0, rfl, fun j hj => ?_⟩⟩
    have hj2 : j < xs.length := by omega
    have hB : Blk w g 48 cur := hh
    have ee : ∀ i, i < 7 → cur[j * 7 + i]? = (oc xs[j])[i]? := fun i hi => by rw [← ofl_at xs j hj2 i hi, ← ht, List.getElem?_take, if_pos (by omega), Array.getElem?_toList]
    have hx := h4 xs[j] (List.getElem_mem hj2)
    have eL : L[j]! = xs[j].1 := by subst h1; rw [getElem!_pos (xs.map (·.1)) j hj, List.getElem_map]
    rw [eL, Nat.zero_add]
    exact ⟨(hB.cell _).trans (ee 0 (by omega)), (hB.cell _).trans (ee 1 (by omega)), (hB.cell _).trans (ee 2 (by omega)), (hB.cell _).trans (ee 3 (by omega)), (hB.cell _).trans (ee 4 (by omega)), (hB.cell _).trans (ee 5 (by omega)), xs[j].2.1, xs[j].2.2, (hB.cell _).trans (ee 6 (by omega)), hx.1, hx.2.below hb⟩

theorem Tryz.infoO2 : (Tryz.prog.info? 48).map (fun i => (i.zero, i.size, i.bytes)) = some (some (.agg #[.int .i64 0, .string ⟨#[]⟩, .string ⟨#[]⟩, .int .i64 0, .int .i64 0, .int .i64 0, .slice none 0 0]), 7, 88) := by kernel_rfl
theorem infoO2_parts : ∃ i, Tryz.prog.info? 48 = some i ∧ i.zero = some (.agg #[.int .i64 0, .string ⟨#[]⟩, .string ⟨#[]⟩, .int .i64 0, .int .i64 0, .int .i64 0, .slice none 0 0]) ∧ i.size = 7 ∧ i.bytes = 88 := by
  have h := Tryz.infoO2
  cases hi : Tryz.prog.info? 48 with
  | none => rw [hi] at h; cases h
  | some i =>
    rw [hi] at h
    simp only [Option.map_some, Option.some.injEq, Prod.mk.injEq] at h
    exact ⟨i, rfl, h.1, h.2.1, h.2.2⟩
theorem append_op2 {w0 w : World} {ops : Array Oper} {rest : List Oper} {o : Oper} {a : Act} {Q : Exit → Act → World → Prop} (hgd : o.guard = none) (s x : Operand)
    (ho : o.op = .call { callee := .builtin .append, args := #[s, x], argTypes := #[22, 22] })
    (B : Nat) (v : Value) (L : List Ho) (hs : a.eval s = v) (hown : Rt2 w0 w B v L)
    (b c : Nat) (y : Hx) (hx : a.eval x = .slice (some ⟨b, 0, none⟩) 1 c) (hk : L.length ≤ 1000000) (hb : Blk w b 48 #[.int .i64 y.1.kind, .string y.1.path, .string y.1.to, .int .i64 y.1.handle, .int .i64 y.1.n, .int .i64 y.1.off, .slice y.2.1 y.1.b.length y.2.2]) (hy : y.1.b.length ≤ y.2.2 ∧ Rw w0 y.2.1 y.1.b) (hbase : B ≤ w.heap.size)
    (h : ∀ v' w', Rt2 w0 w' B v' (L ++ [y.1]) → Below B w w' → wpList Tryz.prog ops Q rest (a.put o.dst v') w') : wpList Tryz.prog ops Q (o :: rest) a w := by
  obtain ⟨i0, hi, hz0, hz1, hz2⟩ := infoO2_parts
  obtain ⟨xs, h1, h2, h4⟩ := hown
  refine wpList_append_own w hgd s x 22 ho B 48 i0 _ 7 88 Tryz.underlying22 hi hz0 hz1 hz2 rfl (by decide) v L.length _ hs h2 ⟨b, 0, none⟩ 1 c (oc y) hx rfl ?_ ?_ (by unfold maxLen; omega) (by omega) hbase ?_
  · intro j u hu
    rw [Addr.add_lit, Nat.zero_add]
    rw [hb.cell]
    simpa [oc] using hu
  · intro u hu
    simp only [oc, List.mem_cons, List.not_mem_nil, or_false] at hu
    rcases hu with rfl | rfl | rfl | rfl | rfl | rfl | rfl <;> rfl
  · intro v' w' g1 g2 _
    refine h v' w' ⟨xs ++ [y], by rw [List.map_append, h1]; rfl, ?_, ?_⟩ ((Below.refl _ w).grown g2 hbase (fun g hg => (World.ownsRow.lt h2 g hg).1))
    · rw [ofl_append, List.length_append]
      simpa [ofl] using g1
    · intro z hz
      rcases List.mem_append.1 hz with hz | hz
      · exact h4 z hz
      · rw [List.mem_singleton.1 hz]; exact hy

/-- the sum told as a number -/
theorem sum_num {t : List Int} (hu : ∀ x ∈ t, U8 x) (hl : t.length = 4) {x : Int} (hx : U64 x) (h4 : x < 4294967296) : (nu t = x) ↔ le 4 x = t := by
  constructor
  · intro h
    have := le_nu t hu
    rw [hl, h] at this
    exact this
  · intro h
    rw [← h, nu_le]
    unfold U64 at hx
    omega
end Go.Proofs.YtcpoicplhkkjnaaGreat
