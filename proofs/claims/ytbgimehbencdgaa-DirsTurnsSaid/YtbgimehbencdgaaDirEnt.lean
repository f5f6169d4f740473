/-
  Rows of entries in memory; sixteen bytes 0 put behind a row of bytes. Nothing of one statement alone stands here.
-/
import Derived.Test.YtbgimehbencdgaaDirRefM
import Derived.Laws.AppendOwnNone
import Derived.Lib.AppendZerosOnto
import Derived.Laws.StructEq
import Derived.Laws.EntriesVeiled
namespace Go.Proofs.Ytbgimehbencdgaa
open Go.RowKit Crcm Tagm Dirm Go.ChangeShapes

/-- entries as cells, one behind the other -/
def eflat : List En → List Value
  | [] => []
  | x :: r => .int .i64 x.1 :: .string x.2 :: eflat r
theorem eflat_len (L : List En) : (eflat L).length = L.length * 2 := by
  induction L with
  | nil => rfl
  | cons b r ih => simp [eflat, ih]; omega
theorem eflat_app (L M : List En) : eflat (L ++ M) = eflat L ++ eflat M := by
  induction L with
  | nil => rfl
  | cons b r ih => rw [List.cons_append, eflat, ih, eflat]; rfl
theorem eflat_one (L : List En) : ∀ u ∈ eflat L, u.oneCell' = true := by
  induction L with
  | nil => intro u h; cases h
  | cons b r ih =>
    intro u h
    simp only [eflat, List.mem_cons] at h
    rcases h with rfl | rfl | h
    · rfl
    · rfl
    · exact ih u h
theorem eflat_at : ∀ (L : List En) (q : Nat), q < L.length → (eflat L)[q * 2]? = some (.int .i64 L[q]!.1) ∧ (eflat L)[q * 2 + 1]? = some (.string L[q]!.2)
  | [], q, h => by simp at h
  | b :: r, 0, _ => ⟨rfl, rfl⟩
  | b :: r, q + 1, h => by
    have := eflat_at r q (by simpa using h)
    rw [show (q + 1) * 2 = q * 2 + 1 + 1 by omega]
    exact this
/-- an entry's cells -/
def EAt (w : World) (b off : Nat) (x : En) : Prop := w.cell? ⟨b, off, none⟩ = some (.int .i64 x.1) ∧ w.cell? ⟨b, off + 1, none⟩ = some (.string x.2)
theorem EAt.below {w w' : World} {b off : Nat} {x : En} (h : EAt w b off x) (hb : Below w.heap.size w w') : EAt w' b off x :=
  ⟨(hb.cell (block_lt_of_cell h.1)).trans h.1, (hb.cell (block_lt_of_cell h.2)).trans h.2⟩
/-- a row of entries that is read -/
def ER (w : World) (A : Option Addr) (L : List En) : Prop := L = [] ∨ ∃ g, A = some ⟨g, 0, none⟩ ∧ ∀ j, j < L.length → EAt w g (j * 2) L[j]!
theorem ER.below {w w' : World} {A : Option Addr} {L : List En} (h : ER w A L) (hb : Below w.heap.size w w') : ER w' A L := by
  rcases h with h | ⟨g, rfl, h⟩
  · exact .inl h
  · exact .inr ⟨g, rfl, fun j hj => (h j hj).below hb⟩
theorem ER.at {w : World} {A : Option Addr} {L : List En} (h : ER w A L) {j : Nat} (hj : j < L.length) : ∃ g, A = some ⟨g, 0, none⟩ ∧ EAt w g (j * 2) L[j]! := by
  rcases h with rfl | ⟨g, rfl, h⟩
  · simp at hj
  · exact ⟨g, rfl, h j hj⟩
theorem ER.take {w : World} {A : Option Addr} {L : List En} (h : ER w A L) {n : Nat} (hn : n ≤ L.length) : ER w A (L.take n) := by
  rcases h with rfl | ⟨g, rfl, h⟩
  · left; simp
  · refine .inr ⟨g, rfl, fun j hj => ?_⟩
    rw [List.length_take] at hj
    rw [take_at hn (by omega)]
    exact h j (by omega)
/-- a row of entries of the call's own -/
def OE (w : World) (g : Nat) (L : List En) : Prop :=
  ∃ cur : Array Value, Blk w g 23 cur ∧ ∀ j, j < L.length → cur[j * 2]? = some (.int .i64 L[j]!.1) ∧ cur[j * 2 + 1]? = some (.string L[j]!.2)
theorem OE.at {w : World} {g : Nat} {L : List En} (h : OE w g L) {j : Nat} (hj : j < L.length) : EAt w g (j * 2) L[j]! := by
  obtain ⟨cur, hb, hc⟩ := h
  obtain ⟨c0, c1⟩ := hc j hj
  exact ⟨(hb.cell _).trans c0, (hb.cell _).trans c1⟩
theorem OE.er {w : World} {g : Nat} {L : List En} (h : OE w g L) : ER w (some ⟨g, 0, none⟩) L := .inr ⟨g, rfl, fun _ hj => h.at hj⟩
theorem OE.frozen {w : World} {g : Nat} {L : List En} (h : OE w g L) (i : Nat) : w.frozen? ⟨g, i, none⟩ = false := by
  obtain ⟨cur, hb, _⟩ := h
  exact hb.frozen i
theorem OE.put {w : World} {g : Nat} {L : List En} (h : OE w g L) (k : Nat) (hk : k < L.length) (x : En) : OE ((w.setCell ⟨g, k * 2, none⟩ (.int .i64 x.1)).setCell ⟨g, k * 2 + 1, none⟩ (.string x.2)) g (L.set k x) := by
  obtain ⟨cur, h1, h2⟩ := h
  refine ⟨_, (h1.put (k * 2) (.int .i64 x.1)).put (k * 2 + 1) (.string x.2), fun j hj => ?_⟩
  rw [List.length_set] at hj
  rw [set_at hj]
  obtain ⟨d0, d1⟩ := h2 k hk
  have s0 := (Array.getElem?_eq_some_iff.1 d0).1
  have s1 := (Array.getElem?_eq_some_iff.1 d1).1
  obtain ⟨c0, c1⟩ := h2 j hj
  simp only [Array.getElem?_setIfInBounds, Array.size_setIfInBounds]
  by_cases e : k = j
  · subst e
    have e1 : (if k = k then x else L[k]!) = x := if_pos rfl
    rw [e1]
    refine ⟨?_, ?_⟩
    · rw [if_neg (by omega), if_pos rfl, if_pos s0]
    · rw [if_pos rfl, if_pos s1]
  · rw [if_neg e]
    refine ⟨?_, ?_⟩
    · rw [if_neg (by omega), if_neg (by omega)]; exact c0
    · rw [if_neg (by omega), if_neg (by omega)]; exact c1
theorem OE.put1 {w : World} {g : Nat} {L : List En} (h : OE w g L) (k : Nat) (hk : k < L.length) (i : Int) : OE (w.setCell ⟨g, k * 2, none⟩ (.int .i64 i)) g (L.set k (i, L[k]!.2)) := by
  obtain ⟨cur, h1, h2⟩ := h
  refine ⟨_, h1.put (k * 2) (.int .i64 i), fun j hj => ?_⟩
  rw [List.length_set] at hj
  rw [set_at hj]
  obtain ⟨d0, d1⟩ := h2 k hk
  have s0 := (Array.getElem?_eq_some_iff.1 d0).1
  obtain ⟨c0, c1⟩ := h2 j hj
  simp only [Array.getElem?_setIfInBounds]
  by_cases e : k = j
  · subst e
    have e1 : (if k = k then (i, L[k]!.2) else L[k]!) = (i, L[k]!.2) := if_pos rfl
    rw [e1]
    refine ⟨?_, ?_⟩
    · rw [if_pos rfl, if_pos s0]
    · rw [if_neg (by omega)]; exact c1
  · rw [if_neg e]
    refine ⟨?_, ?_⟩
    · rw [if_neg (by omega)]; exact c0
    · rw [if_neg (by omega)]; exact c1
/-- what an owned row is -/
theorem own_oe {w : World} {base n : Nat} {v : Value} {L : List En} (h : w.ownsRow base 23 2 v n (eflat L)) : L.length = n ∧ ((v = .slice none 0 0 ∧ n = 0) ∨ ∃ g c, v = .slice (some ⟨g, 0, none⟩) n c ∧ base ≤ g ∧ n ≤ c ∧ c ≤ 9223372036854775807 ∧ OE w g L) := by
  obtain ⟨hl, h⟩ := h
  rw [eflat_len] at hl
  refine ⟨by omega, ?_⟩
  rcases h with ⟨h1, h2⟩ | ⟨g, cap, cur, rfl, hg, hheap, hn, hm, hsz, ht⟩
  · exact .inl ⟨h1, h2⟩
  · refine .inr ⟨g, cap, rfl, hg, hn, by unfold maxLen at hm; omega, cur, hheap, fun j hj => ?_⟩
    obtain ⟨f0, f1⟩ := eflat_at L j hj
    have e : ∀ i, i < n * 2 → cur[i]? = (eflat L)[i]? := fun i hi => by rw [← ht, List.getElem?_take, if_pos hi, Array.getElem?_toList]
    exact ⟨(e _ (by omega)).trans f0, (e _ (by omega)).trans f1⟩
theorem own_er {w : World} {base n : Nat} {v : Value} {L : List En} (h : w.ownsRow base 23 2 v n (eflat L)) : L.length = n ∧ ∃ A c, v = .slice A n c ∧ n ≤ c ∧ c ≤ 9223372036854775807 ∧ ER w A L ∧ (n = 0 → A = none ∨ ∃ g, A = some ⟨g, 0, none⟩) := by
  obtain ⟨h1, h2⟩ := own_oe h
  refine ⟨h1, ?_⟩
  rcases h2 with ⟨rfl, h0⟩ | ⟨g, c, rfl, _, hc, hm, ho⟩
  · subst h0
    exact ⟨none, 0, rfl, Nat.le_refl _, by omega, .inl (List.eq_nil_of_length_eq_zero h1), fun _ => .inl rfl⟩
  · exact ⟨_, c, rfl, hc, hm, ho.er, fun _ => .inr ⟨g, rfl⟩⟩

theorem Try.infoE : (Try.prog.info? 23).map (fun i => (i.zero, i.size, i.bytes)) = some (some (.agg #[.int .i64 0, .string ⟨#[]⟩]), 2, 24) := by kernel_rfl
theorem infoE_parts : ∃ i, Try.prog.info? 23 = some i ∧ i.zero = some (.agg #[.int .i64 0, .string ⟨#[]⟩]) ∧ i.size = 2 ∧ i.bytes = 24 := by
  have h := Try.infoE
  cases hi : Try.prog.info? 23 with
  | none => rw [hi] at h; cases h
  | some i =>
    rw [hi] at h
    simp only [Option.map_some, Option.some.injEq, Prod.mk.injEq] at h
    exact ⟨i, rfl, h.1, h.2.1, h.2.2⟩
/-- append of entries onto a row of the call's own -/
theorem append_ents {w : World} {ops : Array Oper} {rest : List Oper} {o : Oper} {a : Act} {Q : Exit → Act → World → Prop} (hgd : o.guard = none) (s x : Operand)
    (ho : o.op = .call { callee := .builtin .append, args := #[s, x], argTypes := #[34, 34] })
    (base : Nat) (v : Value) (n : Nat) (M : List En) (hs : a.eval s = v) (hown : w.ownsRow base 23 2 v n (eflat M))
    (A : Option Addr) (m c : Nat) (L : List En) (hx : a.eval x = .slice A m c) (hl : L.length = m) (hsrc : ER w A L) (h63 : n + m ≤ 1000000) (hbase : base ≤ w.heap.size)
    (h : ∀ v' w', w'.ownsRow base 23 2 v' (n + m) (eflat (M ++ L)) → Below base w w' → wpList Try.prog ops Q rest (a.put o.dst v') w') : wpList Try.prog ops Q (o :: rest) a w := by
  obtain ⟨i0, hi, hz0, hz1, hz2⟩ := infoE_parts
  rcases A with _ | ad
  · have h0 : L = [] := by
      rcases hsrc with h | ⟨g, h, _⟩
      · exact h
      · cases h
    subst h0
    simp at hl
    subst hl
    exact wpList_plain hgd fun _ hK => wp_append_nothing s x 34 ho base 23 i0 2 Try.underlying34 hi v n _ hs hown c hx (hK _ _ (h v w (by simpa using hown) (Below.refl _ _)))
  · refine wpList_append_own w hgd s x 34 ho base 23 i0 _ 2 24 Try.underlying34 hi hz0 hz1 hz2 rfl (by decide) v n _ hs hown ad m c (eflat L) hx (by rw [eflat_len, hl]) ?_ (eflat_one L) (by unfold maxLen; omega) (by omega) hbase ?_
    · intro j u hu
      have hj : j < L.length * 2 := by
        rw [← eflat_len]
        exact (List.getElem?_eq_some_iff.1 hu).1
      rcases hsrc with h1 | ⟨g, e, hc⟩
      · subst h1; simp at hj
      injection e with e
      subst e
      rw [show (⟨g, 0, none⟩ : Addr).add j = ⟨g, j, none⟩ by unfold Addr.add; split <;> simp_all]
      obtain ⟨f0, f1⟩ := eflat_at L (j / 2) (by omega)
      obtain ⟨c0, c1⟩ := hc (j / 2) (by omega)
      rcases Nat.mod_two_eq_zero_or_one j with e | e
      · rw [show j / 2 * 2 = j by omega] at f0 c0
        rw [c0, ← hu, f0]
      · rw [show j / 2 * 2 + 1 = j by omega] at f1 c1
        rw [c1, ← hu, f1]
    · intro v' w' h1 h2 _
      rw [← eflat_app] at h1
      exact h v' w' h1 ((Below.refl _ _).grown h2 hbase (fun g hg => (hown.lt g hg).1))

/-- so many bytes 0 put behind a row of bytes of the call's own ('append(out, make([]byte, k)...)') -/
theorem run_append_zeros {w : World} {base n k : Nat} {v : Value} {xs : List Int} (ty : TypeId) (hown : w.ownsRow base 5 1 v n (xs.map (Value.int .u8))) (hk : 0 < k) (hn : n + k ≤ 1000000) (hbase : base ≤ w.heap.size) :
    ∃ v' w', (Builtin.append_ #[24, 3] ty #[v, .int .i64 k]).run Try.prog w = .ok v' w' ∧ w'.ownsRow base 5 1 v' (n + k) ((xs ++ List.replicate k 0).map (Value.int .u8)) ∧ Below base w w' := by
  obtain ⟨i0, hi, hz0, hz1, hz2⟩ := info_parts Try.info8
  have hxl : xs.length = n := by have := hown.1; simpa using this
  have hzc : ∀ m, (Builtin.zeroCells (Value.int .u8 0).cells m).toList = List.replicate m (Value.int .u8 0) := fun m => by
    show (Builtin.zeroCells #[Value.int .u8 0] m).toList = _
    apply List.ext_getElem
    · simp [Builtin.zeroCells]
    · intro i h1 h2
      simp [Builtin.zeroCells, Nat.mod_one]
  have hzs : ∀ m, (Builtin.zeroCells (Value.int .u8 0).cells m).size = m := fun m => by rw [← Array.length_toList, hzc, List.length_replicate]
  have hlen : ((xs ++ List.replicate k 0).map (Value.int .u8)).length = (n + k) * 1 := by simp; omega
  have grown : ∀ (olds : List Value) (c : Nat), olds = xs.map (Value.int .u8) → n + k ≤ c → c ≤ maxLen → 
      (w.drew.alloc (.cells (olds.toArray ++ Builtin.zeroCells (Value.int .u8 0).cells k ++ Builtin.zeroCells (Value.int .u8 0).cells (c - (n + k))) 5)).ownsRow base 5 1 (.slice (some ⟨w.heap.size, 0, none⟩) (n + k) c) (n + k) ((xs ++ List.replicate k 0).map (Value.int .u8)) := by
    intro olds c ho hc hm
    refine ⟨hlen, .inr ⟨w.heap.size, c, _, rfl, hbase, heap_alloc_new w.drew _, hc, hm, ?_, ?_⟩⟩
    · simp only [Array.size_append, List.size_toArray, hzs, ho, List.length_map]
      omega
    · simp only [Array.toList_append, hzc, ho]
      rw [List.map_append, List.map_replicate, List.take_append_of_le_length (by simp; omega), List.take_of_length_le (by simp; omega)]
  rcases hown.2 with ⟨rfl, rfl⟩ | ⟨g, cap, cur, rfl, hbg, hg, hnc, hcm, hsz, ht⟩
  · have hx : xs = [] := List.eq_nil_of_length_eq_zero hxl
    subst hx
    have hr := Lib.run_append_nil_zeros (P := Try.prog) w 24 3 ty 5 i0 (.int .u8 0) .i64 .i64 Try.underlying24 Try.underlying3 hi hz0 k hk (by rw [hz1]; decide) (by omega) (by rw [hz2]; omega)
    have hgr := grown [] (grownCap w k 0 5) rfl (by have := grownCap_ge w k 0 5; omega) (grownCap_le_maxLen w k 0 5 (by unfold maxLen; omega))
    rw [Nat.zero_add] at hgr ⊢
    refine ⟨_, _, hr, ?_, (Below.refl _ _).drew.alloc hbase _⟩
    simpa using hgr
  · by_cases hroom : n + k ≤ cap
    · have hst := run_storeCells_at Try.prog g n 5 (List.replicate k (Value.int .u8 0)) 0 cur w hg (by simp; omega) (fun u hu => by rw [List.eq_of_mem_replicate hu]; rfl)
      simp only [Nat.add_zero] at hst
      have hw : IntKind.i64.wrap (k : Int) = k := by rw [IntKind.wrap_i64]; omega
      have h48i : ¬ (281474976710656 < (k : Int)) := by omega
      have hneg : ¬ ((k : Int) < 0) := by omega
      have hk0 : ¬ k = 0 := by omega
      refine ⟨.slice (some ⟨g, 0, none⟩) (n + k) cap, _, ?_, ⟨hlen, .inr ⟨g, cap, _, rfl, hbg, setRow_heap w g cur (cur.toList.take n ++ List.replicate k (Value.int .u8 0) ++ cur.toList.drop (n + (List.replicate k (Value.int .u8 0)).length)).toArray _ _ hg, hroom, hcm, ?_, ?_⟩⟩, below_setRow (Below.refl _ _) hbg _⟩
      · simp [Builtin.append_, run_underlying Try.underlying24, run_underlying Try.underlying3, sizeOf, typeInfo, zeroValue, hi, hz0, hz1, hz2, asInt, asIntOf, hw, hneg, hk0, h48i, hroom, hzc, Addr.add_lit, hst]
      · simp; omega
      · rw [List.toList_toArray, List.take_append_of_le_length (by simp; omega), List.take_of_length_le (by simp; omega), List.map_append, List.map_replicate]
        rw [Nat.mul_one] at ht
        rw [ht]
    · have hold : (Builtin.firstCells i0.size n (.slice (some ⟨g, 0, none⟩) n cap)).run Try.prog w.drew = .ok (xs.map (Value.int .u8)).toArray w.drew :=
        run_firstCells_some (P := Try.prog) w.drew i0.size n ⟨g, 0, none⟩ n cap (xs.map (Value.int .u8)) (by rw [hz1, List.length_map]; omega) (fun j u hu => hown.cells (g := g) rfl j u hu)
      have hr := Lib.run_append_grow_zeros (P := Try.prog) w 24 3 ty 5 i0 (.int .u8 0) .i64 .i64 Try.underlying24 Try.underlying3 hi hz0 (some ⟨g, 0, none⟩) n cap _ hold k hk (by rw [hz1]; decide) (by omega) (by omega) (by rw [hz2]; omega) (growslice_fits (by omega) (by rw [hz2]; omega))
      have hgr := grown (xs.map (Value.int .u8)) (grownCap w (n + k) cap 5) rfl (grownCap_ge w (n + k) cap 5) (grownCap_le_maxLen w (n + k) cap 5 (by unfold maxLen; omega))
      exact ⟨_, _, hr, hgr, (Below.refl _ _).drew.alloc hbase _⟩

end Go.Proofs.Ytbgimehbencdgaa
