/-
  A pattern is made: the program's New.
-/
import Derived.Test.YtaielamimkigmaaGlobColl
import Derived.Test.YtaielamimkigmaaGlobPart
namespace Go.Proofs.Ytaielamimkigmaa
open Go.RowKit Go.ChangeShapes Globm Go.ChangeMaps

/-- a part as it lies in memory: its text, its marks, where they lie -/
structure Pe where
  t : ByteArray
  m : List (Mk Nat)
  A : Option Addr
  c : Nat
def pev (e : Pe) : List Value := [.bool (isAny e.t), .slice e.A e.m.length e.c]
def ptl (ps : List Pe) : List Value := ps.flatMap pev
theorem ptl_snoc (ps : List Pe) (e : Pe) : ptl (ps ++ [e]) = ptl ps ++ pev e := by simp [ptl]
theorem ptl_at : ∀ (l : List Pe) (j : Nat) (x : Pe) (c : Nat), l[j]? = some x → c < 2 → (ptl l)[j * 2 + c]? = (pev x)[c]?
  | [], j, x, c, h, _ => by simp at h
  | y :: l, 0, x, c, h, hc => by
    simp only [List.getElem?_cons_zero, Option.some.injEq] at h
    subst h
    show (pev y ++ ptl l)[0 * 2 + c]? = _
    rw [Nat.zero_mul, Nat.zero_add, List.getElem?_append_left (by simpa [pev] using hc)]
  | y :: l, j + 1, x, c, h, hc => by
    simp only [List.getElem?_cons_succ] at h
    show (pev y ++ ptl l)[(j + 1) * 2 + c]? = _
    rw [List.getElem?_append_right (by simp [pev]; omega), show (j + 1) * 2 + c - (pev y).length = j * 2 + c by simp [pev]; omega]
    exact ptl_at l j x c h hc
theorem infoPart : (Try.prog.info? 57).map (fun i => (i.zero, i.size, i.bytes)) = some (some (.agg #[.bool false, .slice none 0 0]), 2, 32) := by kernel_rfl
/-- a part is put behind the others -/
theorem appT {w : World} {ops : Array Oper} {rest : List Oper} {o : Oper} {a : Act} {Q : Exit → Act → World → Prop} (hgd : o.guard = none) (s x : Operand)
    (ho : o.op = .call { callee := .builtin .append, args := #[s, x], argTypes := #[53, 53] })
    (base : Nat) (v : Value) (n : Nat) (xs : List Value) (hs : a.eval s = v) (hown : w.ownsRow base 57 2 v n xs)
    (g : Nat) (c : Nat) (b : Bool) (A : Option Addr) (k q : Nat) (hx : a.eval x = .slice (some ⟨g, 0, none⟩) 1 c) (hb : Blk w g 57 #[.bool b, .slice A k q]) (h63 : n + 1 ≤ 4000000) (hbase : base ≤ w.heap.size)
    (h : ∀ v' w', w'.ownsRow base 57 2 v' (n + 1) (xs ++ [.bool b, .slice A k q]) → Below base w w' → w.grownBy w' v.ownBlock → wpList Try.prog ops Q rest (a.put o.dst v') w') : wpList Try.prog ops Q (o :: rest) a w := by
  obtain ⟨i0, hi, hz0, hz1, hz2⟩ := info_parts infoPart
  refine wpList_append_own_at w hgd s x 53 ho base 57 i0 _ 2 32 Try.underlying53 hi hz0 hz1 hz2 rfl (by decide) v n _ hs hown ⟨g, 0, none⟩ 1 c [.bool b, .slice A k q] hx rfl ?_ ?_ (by unfold maxLen; omega) (by omega) hbase ?_
  · intro j u hu
    have := hb.cell j
    rw [Addr.add_lit, Nat.zero_add, this]
    simpa using hu
  · intro u hu
    simp at hu
    rcases hu with rfl | rfl <;> rfl
  · intro v' w' h1 h2 _ h4
    exact h v' w' h1 ((Below.refl _ _).grown h2 hbase (fun g hg => (hown.lt g hg).1)) h2
/-- rows of unlike types are not the same -/
theorem own_type {w : World} {base g k sz : Nat} {e t : TypeId} {v : Value} {xs : List Value} {cs : Array Value} (h : w.ownsRow base e sz v k xs) (hb : Blk w g t cs) (hne : e ≠ t) : v.ownBlock ≠ some g := fun q => by
  rcases h.2 with ⟨h0, _⟩ | ⟨g', cap, cur, h0, _, hgg, _⟩
  · rw [h0] at q; simp [Value.ownBlock] at q
  · rw [h0] at q
    simp [Value.ownBlock] at q
    subst q
    rw [show w.heap[g']? = _ from hb] at hgg
    injection hgg with hgg
    injection hgg with _ h2
    exact hne h2.symm
theorem own_type2 {w : World} {base base2 k k2 sz sz2 : Nat} {e t : TypeId} {v v2 : Value} {xs xs2 : List Value} (h : w.ownsRow base e sz v k xs) (h2 : w.ownsRow base2 t sz2 v2 k2 xs2) (hne : e ≠ t) : v.ownBlock = none ∨ v.ownBlock ≠ v2.ownBlock := by
  rcases h2.2 with ⟨h0, _⟩ | ⟨g', cap, cur, h0, _, hgg, _⟩
  · rcases hv : v.ownBlock with _ | g
    · exact .inl rfl
    · exact .inr (by rw [h0]; simp [Value.ownBlock])
  · have hb : Blk w g' t cur := hgg
    exact .inr (by rw [h0]; exact own_type h hb hne)

/-- what lies in memory while a pattern is made -/
structure NewSt (w : World) (B g : Nat) (ps : List Pe) (v : Value) (W : World) : Prop where
  pat : Blk W g 55 #[v]
  row : W.ownsRow B 57 2 v ps.length (ptl ps)
  each : ∀ e ∈ ps, marks (by8 e.t) = some e.m ∧ W.ownsRow B 75 5 (.slice e.A e.m.length e.c) e.m.length (pcl e.m)
  bel : Below w.heap.size w W
theorem NewSt.below {w : World} {B g : Nat} {ps : List Pe} {v : Value} {W W' : World} (h : NewSt w B g ps v W) (hb : Below W.heap.size W W') : NewSt w B g ps v W' :=
  ⟨h.pat.below hb h.pat.lt, own_belowN h.row hb, fun e he => ⟨(h.each e he).1, own_belowN (h.each e he).2 hb⟩, h.bel.trans (hb.mono h.bel.size)⟩
theorem own_base0 {w : World} {b b' k sz : Nat} {e : TypeId} {v : Value} {xs : List Value} (h : w.ownsRow b e sz v k xs) (hb : b' ≤ b) : w.ownsRow b' e sz v k xs := by
  obtain ⟨h1, h2⟩ := h
  refine ⟨h1, ?_⟩
  rcases h2 with h2 | ⟨g, cap, cur, e', hg, r⟩
  · exact .inl h2
  · exact .inr ⟨g, cap, cur, e', Nat.le_trans hb hg, r⟩
/-- one part more -/
theorem NewSt.push {w : World} {g : Nat} {ps : List Pe} {v v' : Value} {W w' : World} {e : Pe} (h : NewSt w w.heap.size g ps v W) (hm : marks (by8 e.t) = some e.m) (hp : W.ownsRow w.heap.size 75 5 (.slice e.A e.m.length e.c) e.m.length (pcl e.m))
    (hg : W.grownBy w' v.ownBlock) (hb : Below w.heap.size W w') (ho : w'.ownsRow w.heap.size 57 2 v' (ps.length + 1) (ptl ps ++ pev e)) (hgl : w.heap.size ≤ g) : NewSt w w.heap.size g (ps ++ [e]) v' (w'.setCell ⟨g, 0, none⟩ v') := by
  have hpat : Blk w' g 55 #[v] := (hg.block g h.pat.lt (fun q => own_type h.row h.pat (by decide) q.symm)).trans h.pat
  have all : ∀ x ∈ ps ++ [e], marks (by8 x.t) = some x.m ∧ W.ownsRow w.heap.size 75 5 (.slice x.A x.m.length x.c) x.m.length (pcl x.m) := fun x hx => by
    rcases List.mem_append.1 hx with hx | hx
    · exact h.each x hx
    · rw [List.mem_singleton.1 hx]; exact ⟨hm, hp⟩
  refine ⟨?_, ?_, fun x hx => ⟨(all x hx).1, ?_⟩, ?_⟩
  · simpa using hpat.put 0 v'
  · rw [ptl_snoc, show (ps ++ [e]).length = ps.length + 1 by simp]
    exact ho.kept (grownBy_setCell' w' g _) (.inr (own_type ho hpat (by decide)))
  · have h1 := ((all x hx).2).kept hg (own_type2 (all x hx).2 h.row (by decide))
    exact h1.kept (grownBy_setCell' w' g _) (.inr (own_type h1 hpat (by decide)))
  · exact (h.bel.trans hb).setCell (p := ⟨g, 0, none⟩) hgl _

/-- a pattern of these parts, as it lies in memory -/
def Pt (w : World) (v : Value) (L : List ByteArray) : Prop :=
  ∃ g A k c, v = .pointer (some ⟨g, 0, none⟩) ∧ w.cell? ⟨g, 0, none⟩ = some (.slice A k c) ∧ k = L.length ∧ k ≤ c ∧ c ≤ 9223372036854775807 ∧ (L = [] ∨ ∃ b, A = some ⟨b, 0, none⟩ ∧ ∀ i t, L[i]? = some t → ∃ m A' c', marks (by8 t) = some m ∧ m.length ≤ c' ∧ m.length ≤ 64 ∧ w.cell? ⟨b, i * 2, none⟩ = some (.bool (isAny t)) ∧ w.cell? ⟨b, i * 2 + 1, none⟩ = some (.slice A' m.length c') ∧ Rp w A' m)
theorem Pt.below {w w' : World} {v : Value} {L : List ByteArray} (h : Pt w v L) (hb : Below w.heap.size w w') : Pt w' v L := by
  obtain ⟨g, A, k, c, e, hc, h1, h2, h3, h4⟩ := h
  refine ⟨g, A, k, c, e, (hb.cell (p := ⟨g, 0, none⟩) (block_lt_of_cell hc)).trans hc, h1, h2, h3, ?_⟩
  rcases h4 with h4 | ⟨b, e2, h4⟩
  · exact .inl h4
  · refine .inr ⟨b, e2, fun i t ht => ?_⟩
    obtain ⟨m, A', c', q1, q2, q3, q4, q5, q6⟩ := h4 i t ht
    exact ⟨m, A', c', q1, q2, q3, (hb.cell (p := ⟨b, i * 2, none⟩) (block_lt_of_cell q4)).trans q4, (hb.cell (p := ⟨b, i * 2 + 1, none⟩) (block_lt_of_cell q5)).trans q5, q6.below hb⟩
theorem marks_len {l : List Nat} {m : List (Mk Nat)} (h : marks l = some m) : m.length ≤ 64 := by
  unfold marks at h
  split at h
  · rename_i hq
    have := prs_len _ _ _ h
    omega
  · cases h
theorem own_caps {w : World} {base k c sz : Nat} {e : TypeId} {A : Option Addr} {xs : List Value} (h : w.ownsRow base e sz (.slice A k c) k xs) : k ≤ c ∧ c ≤ 9223372036854775807 := by
  rcases h.2 with ⟨h, h0⟩ | ⟨g, c', cur, h, _, _, hn, hc, _⟩
  · injection h with h1 h2 h3; omega
  · injection h with h1 h2 h3; unfold maxLen at hc; omega
theorem NewSt.pt {w : World} {B g : Nat} {ps : List Pe} {A : Option Addr} {k c : Nat} {W : World} (h : NewSt w B g ps (.slice A k c) W) (hk : ps.length = k) : Pt W (.pointer (some ⟨g, 0, none⟩)) (ps.map (·.t)) := by
  subst hk
  have hc := own_caps h.row
  refine ⟨g, A, ps.length, c, rfl, by have := h.pat.cell 0; simpa using this, by simp, hc.1, hc.2, ?_⟩
  rcases h.row.2 with ⟨_, h0⟩ | ⟨b, c', cur, he, _, hg, hn, _, hs, ht⟩
  · have hps : ps = [] := List.eq_nil_of_length_eq_zero (by simpa using h0)
    left; rw [hps]; rfl
  · injection he with e1
    refine .inr ⟨b, e1, fun i t hi => ?_⟩
    rw [List.getElem?_map] at hi
    rcases hx : ps[i]? with _ | x
    · rw [hx] at hi; cases hi
    · rw [hx] at hi
      simp only [Option.map_some, Option.some.injEq] at hi
      subst hi
      have hil : i < ps.length := (List.getElem?_eq_some_iff.1 hx).1
      obtain ⟨h1, h2⟩ := h.each x (List.mem_of_getElem? hx)
      have cell : ∀ c, c < 2 → W.cell? ⟨b, i * 2 + c, none⟩ = (pev x)[c]? := fun c hc => by
        rw [cell_of_row W b (i * 2 + c) cur 57 (0, 0) hg, ← ptl_at ps i x c hx hc, ← ht, List.getElem?_take_of_lt (by omega), Array.getElem?_toList]
      exact ⟨x.m, x.A, x.c, h1, (own_caps h2).1, marks_len h1, cell 0 (by decide), cell 1 (by decide), Rp.of_own h2 (by have := marks_len h1; omega)⟩
end Go.Proofs.Ytaielamimkigmaa
