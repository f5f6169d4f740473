/-
  A look at all pages of a chip. Nothing of one statement alone stands here.
-/
import Derived.Test.YtbfifppdcmimaaaGreatFtSl
import Derived.Test.YtbfifppdcmimaaaGreatFtRd
import Derived.Deep.RegionLaw
namespace Ftlm
open Crcm
def lk0 (s : Sn) (k : Nat) : Sn := { s with fr := fun j => if j = k then true else s.fr j }
def lkf (s : Sn) (k : Nat) : Sn := { s with fr := fun j => if j = k then false else s.fr j }
def lke (s : Sn) (k : Nat) (te : Int) : Sn := { s with ep := fun j => if j = k then max (s.ep k) te else s.ep j }
def lkl (s : Sn) (f : Fo) : Sn := { s with L := s.L ++ [f] }
def lkt (s : Sn) (te : Int) : Sn := { s with last := max s.last te }
/-- what a page of n bytes and 32 is taken for -/
def lkW (n k : Nat) (s : Sn) (i : Nat) (l : List Int) : Sn :=
  if isSm (Tagm.tk n l) (Tagm.tp n l) = true then
    (if Tagm.tk n l = 2 then lkt (lkl (lke (lkf s k) k (Tagm.te n l)) ⟨k, i, Tagm.tk n l, Tagm.tp n l, Tagm.ts n l, Tagm.te n l⟩) (Tagm.te n l) else lkl (lke (lkf s k) k (Tagm.te n l)) ⟨k, i, Tagm.tk n l, Tagm.tp n l, Tagm.ts n l, Tagm.te n l⟩)
  else lke (lkf s k) k (Tagm.te n l)
def lkP (n k : Nat) (s : Sn) (i : Nat) (l : List Int) : Sn :=
  if Tagm.Er l then s else if Tagm.Vl n l then lkW n k s i l else lkf s k
/-- of the first i pages of a block -/
def lkI (n k : Nat) (pg : Nat → List Int) (s : Sn) : Nat → Sn
  | 0 => s
  | i + 1 => lkP n k (lkI n k pg s i) i (pg i)
/-- of the first k blocks -/
def lkA (n np : Nat) (bd : Nat → Bool) (pg : Nat → Nat → List Int) : Nat → Sn
  | 0 => ⟨[], fun _ => false, fun _ => 0, 0⟩
  | k + 1 => if bd k = true then lkA n np bd pg k else lkI n k (pg k) (lk0 (lkA n np bd pg k) k) np
/-- so many pages are read of the first k blocks -/
def qn (np : Nat) (bd : Nat → Bool) : Nat → Nat
  | 0 => 0
  | k + 1 => if bd k = true then qn np bd k else qn np bd k + np
end Ftlm
namespace Go.Proofs.YtbfifppdcmimaaaGreat
open Go.RowKit Crcm Gcm Ftlm Go.ChangeShapes Go.Maps

theorem FoR.kp {G : Nat → Prop} {w w' : World} {B : Nat} {v : Value} {L : List Fo} (h : FoR w B v L) (hk : Kp G w w') (hG : ∀ b, G b → b < B) : FoR w' B v L := by
  obtain ⟨h1, h2⟩ := h
  refine ⟨h1, ?_⟩
  rcases h2 with h2 | ⟨g, cap, cur, e, hg, hh, r⟩
  · exact .inl h2
  · have hB : Blk w g 124 cur := hh
    exact .inr ⟨g, cap, cur, e, hg, (hk.block g hB.lt (fun q => by have := hG g q; omega)).trans hh, r⟩
theorem ScAt.kp {G : Nat → Prop} {w w' : World} {B B0 S gF gE nb : Nat} {s : Sn} (h : ScAt w B S gF gE nb s) (hk : Kp G w w') (hG : ∀ b, G b → b < B0) (hS : B0 ≤ S ∧ B0 ≤ gF ∧ B0 ≤ gE ∧ B0 ≤ B) : ScAt w' B S gF gE nb s := by
  obtain ⟨v, h1, h2⟩ := h.blk
  obtain ⟨cs, h3, h4⟩ := h.ep
  exact ⟨⟨v, h1.kp hk (fun q => by have := hG _ q; omega), h2.kp hk (fun b q => by have := hG _ q; omega)⟩, h.fr.kp hk (fun q => by have := hG _ q; omega), cs, h3.kp hk (fun q => by have := hG _ q; omega), h4⟩
theorem FoR.kpT {G : Nat → Prop} {w w' : World} {B : Nat} {v : Value} {L : List Fo} (h : FoR w B v L) (hk : Kp G w w') (hG : ∀ g cs, Blk w g 124 cs → ¬ G g) : FoR w' B v L := by
  obtain ⟨h1, h2⟩ := h
  refine ⟨h1, ?_⟩
  rcases h2 with h2 | ⟨g, cap, cur, e, hg, hh, r⟩
  · exact .inl h2
  · have hB : Blk w g 124 cur := hh
    exact .inr ⟨g, cap, cur, e, hg, (hk.block g hB.lt (hG g cur hB)).trans hh, r⟩
theorem ScAt.putF {w : World} {B S gF gE nb : Nat} {s : Sn} (h : ScAt w B S gF gE nb s) {k : Nat} (hk : k < nb) (b : Bool) : ScAt (w.setCell ⟨gF, k, none⟩ (.bool b)) B S gF gE nb { s with fr := fun j => if j = k then b else s.fr j } := by
  obtain ⟨v, h1, h2⟩ := h.blk
  obtain ⟨cs, h3, h4⟩ := h.ep
  obtain ⟨c9, f1, f2⟩ := h.fr
  have hK : Kp (fun i => i = gF) w (w.setCell ⟨gF, k, none⟩ (.bool b)) := Kp.one _ ⟨gF, k, none⟩ _
  exact ⟨⟨v, h1.kp hK (h1.ne f1 (by decide)), h2.kpT hK (fun g cs hg => hg.ne f1 (by decide))⟩, h.fr.put k hk b, cs, h3.kp hK (h3.ne f1 (by decide)), h4⟩
theorem ScAt.putE {w : World} {B S gF gE nb : Nat} {s : Sn} (h : ScAt w B S gF gE nb s) {k : Nat} (hk : k < nb) (x : Int) : ScAt (w.setCell ⟨gE, k, none⟩ (.int .u64 x)) B S gF gE nb { s with ep := fun j => if j = k then x else s.ep j } := by
  obtain ⟨v, h1, h2⟩ := h.blk
  obtain ⟨cs, h3, h4, h5⟩ := h.ep
  obtain ⟨c9, f1, f2⟩ := h.fr
  have hK : Kp (fun i => i = gE) w (w.setCell ⟨gE, k, none⟩ (.int .u64 x)) := Kp.one _ ⟨gE, k, none⟩ _
  refine ⟨⟨v, h1.kp hK (h1.ne h3 (by decide)), h2.kpT hK (fun g cs hg => hg.ne h3 (by decide))⟩, ⟨c9, f1.kp hK (f1.ne h3 (by decide)), f2⟩, _, h3.put k (.int .u64 x), by simpa using h4, fun j hj => ?_⟩
  by_cases e : j = k
  · subst e
    have : j < cs.size := by omega
    simp [this]
  · simp only [if_neg e]
    rw [Array.getElem?_setIfInBounds, if_neg (fun q => e q.symm)]
    exact h5 j hj
theorem ScAt.putT {w : World} {B S gF gE nb : Nat} {s : Sn} (h : ScAt w B S gF gE nb s) (x : Int) : ScAt (w.setCell ⟨S, 3, none⟩ (.int .u64 x)) B S gF gE nb { s with last := x } := by
  obtain ⟨v, h1, h2⟩ := h.blk
  obtain ⟨cs, h3, h4⟩ := h.ep
  obtain ⟨c9, f1, f2⟩ := h.fr
  have hK : Kp (fun i => i = S) w (w.setCell ⟨S, 3, none⟩ (.int .u64 x)) := Kp.one _ ⟨S, 3, none⟩ _
  exact ⟨⟨v, h1.put 3 (.int .u64 x), h2.kpT hK (fun g cs hg => hg.ne h1 (by decide))⟩, ⟨c9, f1.kp hK (f1.ne h1 (by decide)), f2⟩, cs, h3.kp hK (h3.ne h1 (by decide)), h4⟩
/-- a found page is appended -/
theorem ScAt.putL {w w1 : World} {B S gF gE nb : Nat} {s : Sn} (h : ScAt w B S gF gE nb s) (hS : S < B ∧ gF < B ∧ gE < B) (hb : Below B w w1) {v' : Value} {f : Fo} (hr : FoR w1 B v' (s.L ++ [f])) : ScAt (w1.setCell ⟨S, 0, none⟩ v') B S gF gE nb { s with L := s.L ++ [f] } := by
  obtain ⟨v, h1, h2⟩ := h.blk
  obtain ⟨cs, h3, h4⟩ := h.ep
  obtain ⟨c9, f1, f2⟩ := h.fr
  have g1 := h1.below hb hS.1
  have g3 := h3.below hb hS.2.2
  have gf := f1.below hb hS.2.1
  have hK : Kp (fun i => i = S) w1 (w1.setCell ⟨S, 0, none⟩ v') := Kp.one _ ⟨S, 0, none⟩ _
  exact ⟨⟨v', g1.put 0 v', hr.kpT hK (fun g cs hg => hg.ne g1 (by decide))⟩, ⟨c9, gf.kp hK (gf.ne g1 (by decide)), f2⟩, cs, g3.kp hK (g3.ne g1 (by decide)), h4⟩
theorem rpE_ok {c : Ch} {k i : Nat} (hup : c.up = true) (hk : k < c.nb) (hi : i < c.np) : rpE c k i = 0 := by
  have h1 : reE c k = 0 := by
    unfold reE
    rw [hup, if_pos rfl, if_neg (by omega)]
  unfold rpE
  rw [h1, if_pos rfl, if_neg (by omega)]
theorem fo_new (W : World) (g : Nat) (hg : W.heap.size = g) (f : Fo) : ∀ j u, (foC f)[j]? = some u → (W.alloc (.cells #[.int .i64 f.k, .int .i64 f.i, .int .i64 f.kd, .int .u32 f.pg, .int .u64 f.sq, .int .u64 f.ep] 124)).cell? ((⟨g, 0, none⟩ : Addr).add j) = some u := by
  intro j u hu
  subst hg
  have hb : Blk (W.alloc (.cells #[.int .i64 f.k, .int .i64 f.i, .int .i64 f.kd, .int .u32 f.pg, .int .u64 f.sq, .int .u64 f.ep] 124)) W.heap.size 124 #[.int .i64 f.k, .int .i64 f.i, .int .i64 f.kd, .int .u32 f.pg, .int .u64 f.sq, .int .u64 f.ep] := heap_alloc_new W _
  rw [Addr.add_lit, Nat.zero_add, hb.cell]
  simpa [foC] using hu
theorem fo_one (f : Fo) : ∀ u ∈ foC f, u.oneCell' = true := by
  intro u hu
  simp only [foC, List.mem_cons, List.not_mem_nil, or_false] at hu
  rcases hu with rfl | rfl | rfl | rfl | rfl | rfl <;> rfl
theorem infoFo_parts : ∃ i, Tryz.prog.info? 124 = some i ∧ i.zero = some (.agg #[.int .i64 0, .int .i64 0, .int .i64 0, .int .u32 0, .int .u64 0, .int .u64 0]) ∧ i.size = 6 ∧ i.bytes = 48 := by
  have hi0 := Tryz.infoFo
  cases hi : Tryz.prog.info? 124 with
  | none => rw [hi] at hi0; cases hi0
  | some i =>
    rw [hi] at hi0
    simp only [Option.map_some, Option.some.injEq, Prod.mk.injEq] at hi0
    exact ⟨i, rfl, hi0.1, hi0.2.1, hi0.2.2⟩
theorem lkI_len (n k : Nat) (pg : Nat → List Int) (s : Sn) : ∀ i, (lkI n k pg s i).L.length ≤ s.L.length + i := by
  intro i
  induction i with
  | zero => exact Nat.le_refl _
  | succ i ih =>
    have : (lkP n k (lkI n k pg s i) i (pg i)).L.length ≤ (lkI n k pg s i).L.length + 1 := by
      unfold lkP lkW lkt lkl lke lkf
      split
      · omega
      · split
        · split
          · split <;> simp
          · simp
        · simp
    show (lkP n k (lkI n k pg s i) i (pg i)).L.length ≤ _
    omega
theorem lkA_len (n np : Nat) (bd : Nat → Bool) (pg : Nat → Nat → List Int) : ∀ k, (lkA n np bd pg k).L.length ≤ k * np := by
  intro k
  induction k with
  | zero => exact Nat.zero_le _
  | succ k ih =>
    rw [lkA, Nat.succ_mul]
    split
    · omega
    · have := lkI_len n k (pg k) (lk0 (lkA n np bd pg k) k) np
      have e : (lk0 (lkA n np bd pg k) k).L = (lkA n np bd pg k).L := rfl
      rw [e] at this
      omega
theorem step_append_fo {ops : Array Oper} {o : Oper} {a : Act} {w : World} {K : Act → World → Prop} {Q : Exit → Act → World → Prop} {E : Prop}
    (hg : o.guard = none) (s x : Operand) (hop : o.op = Op.call { callee := Callee.builtin Builtin.append, args := #[s, x], argTypes := #[77, 77] })
    (B : Nat) (v : Value) (L : List Fo) (hs : a.eval s = v) (hown : FoR w B v L) (b c : Nat) (y : Fo) (hx : a.eval x = .slice (some ⟨b, 0, none⟩) 1 c) (hk : L.length ≤ 1000000)
    (hb : Blk w b 124 #[.int .i64 y.k, .int .i64 y.i, .int .i64 y.kd, .int .u32 y.pg, .int .u64 y.sq, .int .u64 y.ep]) (hbase : B ≤ w.heap.size)
    (hK : ∀ v' w', FoR w' B v' (L ++ [y]) → Below B w w' → (∀ g t cs, Blk w g t cs → t ≠ 124 → Blk w' g t cs) → K (a.put o.dst v') w') :
    if Region.wanted o (yielded ops a.tmps) = true then Oper.wp Tryz.prog o a w K Q else E := by
  obtain ⟨i0, hi, hz0, hz1, hz2⟩ := infoFo_parts
  refine step_append_own hg s x 77 hop B 124 i0 _ 6 48 Tryz.underlying77 hi hz0 hz1 hz2 rfl (by decide) v L.length _ hs hown ⟨b, 0, none⟩ 1 c (foC y) hx rfl ?_ (fo_one y) (by unfold maxLen; omega) (by omega) hbase ?_
  · intro j u hu
    rw [Addr.add_lit, Nat.zero_add, hb.cell]
    simpa [foC] using hu
  · intro v' w' g1 g2
    refine hK v' w' ?_ ((Below.refl _ w).grown g2 hbase (fun g hg => (World.ownsRow.lt hown g hg).1)) (fun g t cs hg ht => (g2.block g hg.lt (fun e => ?_)).trans hg)
    rotate_left
    · rcases hown.2 with ⟨e1, -⟩ | ⟨r, cap, cur, e1, -, hh, -⟩
      · rw [e1] at e; cases e
      · rw [e1] at e
        injection e with e
        subst e
        exact hg.ne (show Blk w g 124 cur from hh) ht rfl
    unfold FoR
    rw [flF_append, List.length_append]
    simpa [flF] using g1
theorem Blk.newAt (W : World) (g : Nat) (hg : W.heap.size = g) (t : TypeId) (cs : Array Value) : Blk (W.alloc (.cells cs t)) g t cs := by
  subst hg
  exact heap_alloc_new W _
theorem lk_start1 (W : World) (B nb : Nat) (n np : Nat) (bd : Nat → Bool) (pg : Nat → Nat → List Int) : ScAt (((W.alloc (.cells (madeCells #[.bool false] nb) 4)).alloc (.cells (madeCells #[.int .u64 0] nb) 53)).alloc (.cells #[.slice none 0 0, .slice (some ⟨W.heap.size, 0, none⟩) nb nb, .slice (some ⟨W.heap.size + 1, 0, none⟩) nb nb, .int .u64 0] 80)).drew B (W.heap.size + 1 + 1) W.heap.size (W.heap.size + 1) nb (lkA n np bd pg 0) := by
  have hF : Blk (W.alloc (.cells (madeCells #[.bool false] nb) 4)) W.heap.size 4 (madeCells #[.bool false] nb) := heap_alloc_new W _
  have hE : Blk ((W.alloc (.cells (madeCells #[.bool false] nb) 4)).alloc (.cells (madeCells #[.int .u64 0] nb) 53)) (W.heap.size + 1) 53 (madeCells #[.int .u64 0] nb) := Blk.newAt _ _ (by simp) _ _
  have hS : Blk (((W.alloc (.cells (madeCells #[.bool false] nb) 4)).alloc (.cells (madeCells #[.int .u64 0] nb) 53)).alloc (.cells #[.slice none 0 0, .slice (some ⟨W.heap.size, 0, none⟩) nb nb, .slice (some ⟨W.heap.size + 1, 0, none⟩) nb nb, .int .u64 0] 80)) (W.heap.size + 1 + 1) 80 #[.slice none 0 0, .slice (some ⟨W.heap.size, 0, none⟩) nb nb, .slice (some ⟨W.heap.size + 1, 0, none⟩) nb nb, .int .u64 0] := Blk.newAt _ _ (by simp) _ _
  exact ⟨⟨_, hS, World.ownsRow_nil _ _ _ _⟩, ⟨_, (hF.alloc _).alloc _, size_madeCells _ _, fun j hj => made_get hj⟩, _, hE.alloc _, size_madeCells _ _, fun j hj => made_get hj⟩
theorem lk_start2 (W : World) (B nb : Nat) (n np : Nat) (bd : Nat → Bool) (pg : Nat → Nat → List Int) : ScAt (((W.alloc (.cells (madeCells #[.int .u64 0] nb) 53)).alloc (.cells (madeCells #[.bool false] nb) 4)).alloc (.cells #[.slice none 0 0, .slice (some ⟨W.heap.size + 1, 0, none⟩) nb nb, .slice (some ⟨W.heap.size, 0, none⟩) nb nb, .int .u64 0] 80)).drew B (W.heap.size + 1 + 1) (W.heap.size + 1) W.heap.size nb (lkA n np bd pg 0) := by
  have hF : Blk (W.alloc (.cells (madeCells #[.int .u64 0] nb) 53)) W.heap.size 53 (madeCells #[.int .u64 0] nb) := heap_alloc_new W _
  have hE : Blk ((W.alloc (.cells (madeCells #[.int .u64 0] nb) 53)).alloc (.cells (madeCells #[.bool false] nb) 4)) (W.heap.size + 1) 4 (madeCells #[.bool false] nb) := Blk.newAt _ _ (by simp) _ _
  have hS : Blk (((W.alloc (.cells (madeCells #[.int .u64 0] nb) 53)).alloc (.cells (madeCells #[.bool false] nb) 4)).alloc (.cells #[.slice none 0 0, .slice (some ⟨W.heap.size + 1, 0, none⟩) nb nb, .slice (some ⟨W.heap.size, 0, none⟩) nb nb, .int .u64 0] 80)) (W.heap.size + 1 + 1) 80 #[.slice none 0 0, .slice (some ⟨W.heap.size + 1, 0, none⟩) nb nb, .slice (some ⟨W.heap.size, 0, none⟩) nb nb, .int .u64 0] := Blk.newAt _ _ (by simp) _ _
  exact ⟨⟨_, hS, World.ownsRow_nil _ _ _ _⟩, ⟨_, hE.alloc _, size_madeCells _ _, fun j hj => made_get hj⟩, _, (hF.alloc _).alloc _, size_madeCells _ _, fun j hj => made_get hj⟩

/-- what a look comes to -/
def LkP (w : World) (o : Own) (c : Ch) (e : Ending) (w' : World) : Prop :=
  (∃ S gF gE, e = .returned (.tuple #[.pointer (some ⟨S, 0, none⟩), .int .i64 0]) ∧ (w.heap.size ≤ S ∧ w.heap.size ≤ gF ∧ w.heap.size ≤ gE) ∧
      ScAt w' w.heap.size S gF gE c.nb (lkA c.sz c.np c.bad (rdL c) c.nb)) ∧ RdS o c (qn c.np c.bad c.nb) w w'
theorem ScAt.base {w : World} {B B' S gF gE nb : Nat} {s : Sn} (h : ScAt w B S gF gE nb s) (hB : B' ≤ B) : ScAt w B' S gF gE nb s := by
  obtain ⟨v, h1, h2⟩ := h.blk
  refine ⟨⟨v, h1, h2.1, ?_⟩, h.fr, h.ep⟩
  rcases h2.2 with q | ⟨g, cap, cur, e, hg, r⟩
  · exact .inl q
  · exact .inr ⟨g, cap, cur, e, Nat.le_trans hB hg, r⟩

set_option maxRecDepth 100000 in
set_option maxHeartbeats 4000000 in
theorem look_any {w : World} {X : Nat → Prop} {o : Own} {c : Ch} (h : ChAt w X o c) (hup : c.up = true) :
    Calls Tryz.prog 30 #[.pointer (some ⟨o.bc, 0, none⟩)] w (LkP w o c) := by
  have hnb := h.good.2.1
  have hnp := h.good.2.2.2.1
  have hsz := h.good.2.2.2.2
  have hbc : o.bc < w.heap.size := h.old _ (h.inX _ (.inl rfl))
  have HG := Lib.hid (geo_any h)
  have hop : o.p = .pointer (some ⟨o.bc, 0, none⟩) := rfl
  rw [hop] at HG
  obtain ⟨i1, hi1, hz1, hs1, hb1⟩ := info_parts Tryz.infoBoT
  obtain ⟨i2, hi2, hz2, hs2, hb2⟩ := info_parts (show (Tryz.prog.info? 53).map (fun i => (i.zero, i.size, i.bytes)) = some (some (.int .u64 0), 1, 8) by kernel_rfl)
  have hmB := fun W => run_make (P := Tryz.prog) W 54 4 i1 _ Tryz.underlying54 hi1 hz1 .i64 .i64 c.nb c.nb (by omega) (Int.le_refl _) (by rw [hb1]; omega) (by omega)
  have hmE := fun W => run_make (P := Tryz.prog) W 78 53 i2 _ Tryz.underlying78 hi2 hz2 .i64 .i64 c.nb c.nb (by omega) (Int.le_refl _) (by rw [hb2]; omega) (by omega)
  simp only [Int.toNat_natCast, hs1, Nat.mul_one] at hmB
  simp only [Int.toNat_natCast, hs2, Nat.mul_one] at hmE
  have eB : (Value.bool false).cells = #[.bool false] := rfl
  have eE : (Value.int .u64 0).cells = #[.int .u64 0] := rfl
  rw [eB] at hmB
  rw [eE] at hmE
  clear hi1 hz1 hs1 hb1 hi2 hz2 hs2 hb2 eB eE
  have HH := Lib.hid h
  have HUp := Lib.hid hup
  clear h hop hup
  go_enter Tryz.func30, Tryz.ntmps30
  go_wp2_with fail
  go_step3
  go_wp2_with fail
  refine HG.out.mono ?_
  rintro e w1 ⟨rfl, hb1⟩
  obtain ⟨N, hN⟩ : ∃ N, w1.heap.size = N := ⟨_, rfl⟩
  have hb2 := hb1.alloc hb1.size (.cells #[.int .i64 c.nb, .int .i64 c.np, .int .i64 c.sz] 38)
  have hGe : Blk (w1.alloc (.cells #[.int .i64 c.nb, .int .i64 c.np, .int .i64 c.sz] 38)) N 38 #[.int .i64 c.nb, .int .i64 c.np, .int .i64 c.sz] := by rw [← hN]; exact heap_alloc_new w1 _
  have hNl : w.heap.size ≤ N := by rw [← hN]; exact hb1.size
  have n0 := hGe.cell 0
  change _ = some (Value.int .i64 (c.nb : Int)) at n0
  go_wp2_with fail
  generalize w1.alloc (.cells #[.int .i64 c.nb, .int .i64 c.np, .int .i64 c.sz] 38) = W2 at hb2 hGe n0 ⊢
  clear hb1 hN HG
  have HNk : Hid (∀ A B C : Obj, (((W2.alloc A).alloc B).alloc C).drew.cell? ⟨N, 0, none⟩ = some (.int .i64 c.nb)) := Lib.hid (fun A B C => cell_alloc (cell_alloc (cell_alloc n0 A) B) C)
  have HBl : Hid (∀ A B C : Obj, Below w.heap.size w (((W2.alloc A).alloc B).alloc C).drew) := Lib.hid (fun A B C => by
    have q1 := hb2.alloc hb2.size A
    have q2 := q1.alloc q1.size B
    exact (q2.alloc q2.size C).drew)
  have HGe := Lib.hid hGe
  have HW2 : Hid (w.heap.size ≤ W2.heap.size) := Lib.hid hb2.size
  have HBc := Lib.hid hbc
  clear hGe hb2
  go_cut [5] (fun s5 wx => ∃ S gF gE B2, s5 = .pointer (some ⟨S, 0, none⟩) ∧ Hid ((w.heap.size ≤ S ∧ w.heap.size ≤ gF ∧ w.heap.size ≤ gE) ∧ (S < B2 ∧ gF < B2 ∧ gE < B2 ∧ N < B2 ∧ B2 ≤ S + 1) ∧ w.heap.size ≤ B2) ∧ Hid (ScAt wx B2 S gF gE c.nb (lkA c.sz c.np c.bad (rdL c) 0)) ∧ Hid (Blk wx N 38 #[.int .i64 c.nb, .int .i64 c.np, .int .i64 c.sz]) ∧ Hid (RdS o c 0 w wx))
  case first =>
    go_region_held3 (fun w' => w'.cell? ⟨N, 0, none⟩ = some (.int .i64 c.nb)) ((first | (refine HNk.out _ _ _) | assumption | go_keep)) ((fail))
    · go_wp2_with fail
      go_meet
      exact ⟨_, _, _, W2.heap.size + 3, rfl, Lib.hid ⟨⟨by have := HW2.out; omega, HW2.out, by have := HW2.out; omega⟩, ⟨by omega, by omega, by omega, by have := HGe.out.lt; omega, by omega⟩, by have := HW2.out; omega⟩, Lib.hid (lk_start1 W2 (W2.heap.size + 3) c.nb c.sz c.np c.bad (rdL c)), Lib.hid (((HGe.out.alloc _).alloc _).alloc _), Lib.hid ((RdS.refl o c w).new (HBl.out _ _ _) (Nat.le_refl _) HBc.out)⟩
    · go_wp2_with fail
      go_meet
      exact ⟨_, _, _, W2.heap.size + 3, rfl, Lib.hid ⟨⟨by have := HW2.out; omega, by have := HW2.out; omega, HW2.out⟩, ⟨by omega, by omega, by omega, by have := HGe.out.lt; omega, by omega⟩, by have := HW2.out; omega⟩, Lib.hid (lk_start2 W2 (W2.heap.size + 3) c.nb c.sz c.np c.bad (rdL c)), Lib.hid (((HGe.out.alloc _).alloc _).alloc _), Lib.hid ((RdS.refl o c w).new (HBl.out _ _ _) (Nat.le_refl _) HBc.out)⟩
  case rest =>
    obtain ⟨S, gF, gE, B2, rfl, HCn, HSc, HGn, HRd⟩ := hcut
    have n0 := HGn.out.cell 0
    change _ = some (Value.int .i64 (c.nb : Int)) at n0
    clear HW2 HBl HNk hmB hmE
    go_wp2_with fail
    go_step3
    go_wp2_with fail
    go_loopw [24] (fun i wr => ∃ k : Nat, k ≤ c.nb ∧ i = .int .i64 k ∧ Hid (ScAt wr B2 S gF gE c.nb (lkA c.sz c.np c.bad (rdL c) k)) ∧ Hid (Blk wr N 38 #[.int .i64 c.nb, .int .i64 c.np, .int .i64 c.sz]) ∧ Hid (RdS o c (qn c.np c.bad k) w wr)) (fun i _ => c.nb - (intOf i).toNat)
    case atStart => exact ⟨0, by omega, rfl, HSc, HGn, HRd⟩
    case round =>
      clear HSc HGn HRd n0
      obtain ⟨k, hk, rfl, HSc, HGn, HRd⟩ := hrel
      by_cases hlt : k < c.nb
      · have kl : (k : Int) < (c.nb : Int) := by omega
        have HBd : Hid (Calls Tryz.prog 56 #[.pointer (some ⟨o.bc, 0, none⟩), .int .i64 k] wr fun e w' => e = .returned (.bool (c.bad k)) ∧ wr = w') := Lib.hid (bad_any (HH.out.rds0 HRd.out) k hlt)
        go_wp2_with fail
        go_step3
        go_wp2_with fail
        refine HBd.out.mono ?_
        rintro e w' ⟨rfl, rfl⟩
        cases hbd : c.bad k with
        | true =>
          have HSc2 : Hid (ScAt wr B2 S gF gE c.nb (lkA c.sz c.np c.bad (rdL c) (k + 1))) := Lib.hid (by rw [lkA, if_pos hbd]; exact HSc.out)
          have HRd2 : Hid (RdS o c (qn c.np c.bad (k + 1)) w wr) := Lib.hid (by rw [qn, if_pos hbd]; exact HRd.out)
          clear hbd HBd HSc HRd
          go_wp2
          apply_assumption
          go_wp2
          go_roundw
          case rel => exact ⟨k + 1, by omega, by go_num, HSc2, HGn, HRd2⟩
          case measure => simp [intOf]; omega
        | false =>
          have HStep : Hid (lkA c.sz c.np c.bad (rdL c) (k + 1) = lkI c.sz k (rdL c k) (lk0 (lkA c.sz c.np c.bad (rdL c) k) k) c.np ∧ qn c.np c.bad (k + 1) = qn c.np c.bad k + c.np) := Lib.hid ⟨by rw [lkA, if_neg (by rw [hbd]; decide)], by rw [qn, if_neg (by rw [hbd]; decide)]⟩
          have HLA : Hid ((lkA c.sz c.np c.bad (rdL c) k).L.length ≤ 4096) := Lib.hid (Nat.le_trans (lkA_len c.sz c.np c.bad (rdL c) k) (Nat.le_trans (Nat.mul_le_mul (show k ≤ 128 by omega) (show c.np ≤ 32 by omega)) (by decide)))
          generalize lkA c.sz c.np c.bad (rdL c) k = s0 at HSc HStep HLA
          generalize qn c.np c.bad k = q0 at HRd HStep
          obtain ⟨⟨v, hb, hr⟩, hfr, cs, he1, he2, he3⟩ := HSc.out
          have s1 := hb.cell 1
          change _ = some (Value.slice (some ⟨gF, 0, none⟩) c.nb c.nb) at s1
          have zF : wr.frozen? ⟨gF, k, none⟩ = false := by obtain ⟨c9, q1, -⟩ := hfr; exact q1.frozen k
          have yF : wr.cell? ⟨gF, k, none⟩ = some (.bool (s0.fr k)) := by obtain ⟨c9, q1, -, q3⟩ := hfr; exact (q1.cell k).trans (q3 k hlt)
          clear hbd HBd hb hr hfr he1 he2 he3
          go_wp2_with fail
          have HSc1 := Lib.hid (HSc.out.putF hlt true)
          have hK1 : Below w.heap.size wr (wr.setCell ⟨gF, k, none⟩ (.bool true)) := (Below.refl _ _).setCell (p := ⟨gF, k, none⟩) HCn.out.1.2.1 _
          have HRd1 := Lib.hid (HRd.out.new hK1 (Nat.le_refl _) HBc.out)
          have HGn1 := Lib.hid (HGn.out.kp (Kp.one wr ⟨gF, k, none⟩ (.bool true)) (by
            obtain ⟨c9, q1, -⟩ := HSc.out.fr
            exact HGn.out.ne q1 (by decide)))
          clear hK1 yF zF s1 HSc HRd HGn
          generalize wr.setCell ⟨gF, k, none⟩ (.bool true) = V0 at HSc1 HRd1 HGn1 ⊢
          have n1 := HGn1.out.cell 1
          change _ = some (Value.int .i64 (c.np : Int)) at n1
          go_step3
          go_wp2_with fail
          obtain ⟨Wo, rfl⟩ : ∃ Wo, Wo = wr := ⟨_, rfl⟩
          go_loopw [38] (fun i2 wr2 => ∃ i : Nat, i ≤ c.np ∧ i2 = .int .i64 i ∧ Hid (ScAt wr2 B2 S gF gE c.nb (lkI c.sz k (rdL c k) (lk0 s0 k) i)) ∧ Hid (Blk wr2 N 38 #[.int .i64 c.nb, .int .i64 c.np, .int .i64 c.sz]) ∧ Hid (RdS o c (q0 + i) w wr2)) (fun i2 _ => c.np - (intOf i2).toNat)
          case atStart => exact ⟨0, by omega, rfl, HSc1, HGn1, HRd1⟩
          case round =>
            clear HSc1 HGn1 HRd1 n1
            obtain ⟨i, hi, rfl, HSc, HGn, HRd⟩ := hrel
            by_cases hil : i < c.np
            · have il : (i : Int) < (c.np : Int) := by omega
              have hrp : rpE c k i = 0 := rpE_ok HUp.out hlt hil
              have HRe : Hid (Calls Tryz.prog 20 #[.pointer (some ⟨o.bc, 0, none⟩), .int .i64 k, .int .i64 i] wr fun e w' => (∃ g cc, e = .returned (.tuple #[.slice (some ⟨g, 0, none⟩) (c.sz + 32 : Nat) cc, .int .i64 0]) ∧ c.sz + 32 ≤ cc ∧ wr.heap.size ≤ g ∧ Rw w' (some ⟨g, 0, none⟩) (rdL c k i) ∧ (rdL c k i).length = c.sz + 32) ∧
                ChAt w' X o { chR c (q0 + i) with reads := wrap64 ((chR c (q0 + i)).reads + 1) } ∧ Rdp o (chR c (q0 + i)) wr w') := Lib.hid (read_bc (HH.out.rds0 HRd.out) k i hrp)
              have HSt : Hid (lkI c.sz k (rdL c k) (lk0 s0 k) (i + 1) = lkP c.sz k (lkI c.sz k (rdL c k) (lk0 s0 k) i) i (rdL c k i)) := Lib.hid rfl
              have HLI : Hid ((lkI c.sz k (rdL c k) (lk0 s0 k) i).L.length ≤ 4200) := Lib.hid (by
                have q1 := lkI_len c.sz k (rdL c k) (lk0 s0 k) i
                have q2 : (lk0 s0 k).L = s0.L := rfl
                rw [q2] at q1
                have := HLA.out
                omega)
              generalize lkI c.sz k (rdL c k) (lk0 s0 k) i = si at HSc HSt HLI
              clear hrp
              go_wp2_with fail
              refine HRe.out.mono ?_
              rintro e w1 ⟨⟨g, cc, rfl, hcc, hg, hr, hrl⟩, -, hrd⟩
              generalize rdL c k i = l at HSt hr hrl
              have HRd1 := Lib.hid (HRd.out.read hrd)
              have HSc1 := Lib.hid (HSc.out.kp hrd.1 (B0 := w.heap.size) (fun b e => by rw [e]; exact HBc.out) ⟨HCn.out.1.1, HCn.out.1.2.1, HCn.out.1.2.2, HCn.out.2.2⟩)
              have HGn1 := Lib.hid (HGn.out.kp hrd.1 (fun e => by have := HBc.out; have e2 : N = o.bc := e; omega))
              have hs : Tagm.Sz c.sz := by unfold Tagm.Sz; omega
              clear hrd HRe HSc HGn HRd hg
              by_cases hEr : Tagm.Er l
              · have HT := Lib.hid (read_erased (some ⟨g, 0, none⟩) c.sz cc l w1 hs hr hrl hEr)
                unfold Bad tg at HT
                have HE : Hid (lkI c.sz k (rdL c k) (lk0 s0 k) (i + 1) = si) := Lib.hid (by rw [HSt.out]; unfold lkP; rw [if_pos hEr])
                clear hr hrl hs hEr HSt
                go_wp2_with fail
                refine HT.out.mono ?_
                rintro e w2 ⟨rfl, hb2⟩
                have hb3 := hb2.alloc hb2.size (.cells #[.int .i64 0, .int .u32 0, .int .u64 0, .int .u64 0] 61)
                have HSc2 := Lib.hid (HSc1.out.below hb3)
                have HGn2 := Lib.hid (HGn1.out.below hb3 HGn1.out.lt)
                have HRd2 := Lib.hid (HRd1.out.new hb3 HRd1.out.1.size HBc.out)
                clear hb2 hb3 HT HSc1 HGn1 HRd1
                go_wp2
                first | go_roundw | (apply_assumption; go_wp2; go_roundw)
                case rel => exact ⟨i + 1, by omega, by go_num, Lib.hid (by rw [HE.out]; exact HSc2.out), HGn2, HRd2⟩
                case measure => simp [intOf]; omega
              · have HT := Lib.hid (read_page (some ⟨g, 0, none⟩) c.sz cc l w1 hs hr hrl hcc hEr)
                go_wp2_with fail
                refine HT.out.mono ?_
                rintro e w2 ⟨hb2, hcase⟩
                rcases hcase with ⟨hv, rfl⟩ | ⟨hv, A, c9, rfl, hr2⟩
                · have HE : Hid (lkI c.sz k (rdL c k) (lk0 s0 k) (i + 1) = lkf si k) := Lib.hid (by rw [HSt.out]; unfold lkP; rw [if_neg hEr, if_neg hv])
                  unfold Bad tg
                  obtain ⟨U2, hU2⟩ : ∃ U, w2.alloc (.cells #[.int .i64 0, .int .u32 0, .int .u64 0, .int .u64 0] 61) = U := ⟨_, rfl⟩
                  have hbA : Below w2.heap.size w2 U2 := hU2 ▸ (Below.refl _ _).alloc (Nat.le_refl _) _
                  have hb3 := hb2.trans (hbA.mono hb2.size)
                  obtain ⟨T, hT0⟩ : ∃ T, w2.heap.size = T := ⟨_, rfl⟩
                  have hTb : Blk U2 T 61 #[.int .i64 0, .int .u32 0, .int .u64 0, .int .u64 0] := hU2 ▸ Blk.newAt _ _ hT0 _ _
                  have hsc2 := HSc1.out.below hb3
                  have hgn2 := HGn1.out.below hb3 HGn1.out.lt
                  have hr2 := HRd1.out.new hb3 HRd1.out.1.size HBc.out
                  have hsc3 := hsc2.putF hlt false
                  obtain ⟨⟨v9, hS9, -⟩, ⟨cF, hF9, -, hF8⟩, -⟩ := hsc2
                  have s1 : U2.cell? ⟨S, 1, none⟩ = some (.slice (some ⟨gF, 0, none⟩) c.nb c.nb) := (hS9.cell 1).trans rfl
                  have yF : U2.cell? ⟨gF, k, none⟩ = some (.bool (si.fr k)) := (hF9.cell k).trans (hF8 k hlt)
                  have zF := hF9.frozen k
                  have hKF : Kp (fun b => b = gF) U2 (U2.setCell ⟨gF, k, none⟩ (.bool false)) := Kp.one _ ⟨gF, k, none⟩ _
                  have hbF : Below w.heap.size U2 (U2.setCell ⟨gF, k, none⟩ (.bool false)) := (Below.refl _ _).setCell (p := ⟨gF, k, none⟩) HCn.out.1.2.1 _
                  have HGn3 := Lib.hid (hgn2.kp hKF (hgn2.ne hF9 (by decide)))
                  have HRd3 := Lib.hid (hr2.new hbF (Nat.le_refl _) HBc.out)
                  have HSc3 := Lib.hid hsc3
                  clear hr hrl hs hEr HSt hb2 hb3 HT HSc1 HGn1 HRd1 hv hgn2 hS9 hF9 hF8 hKF hbF hbA hr2 hTb hsc3
                  subst hU2
                  go_wp2
                  go_roundw
                  case rel => exact ⟨i + 1, by omega, by go_num, Lib.hid (by rw [HE.out]; exact HSc3.out), HGn3, HRd3⟩
                  case measure => simp [intOf]; omega
                · have HE : Hid (lkI c.sz k (rdL c k) (lk0 s0 k) (i + 1) = lkW c.sz k si i l) := Lib.hid (by rw [HSt.out]; unfold lkP; rw [if_neg hEr, if_pos hv])
                  have hrt := hv.1
                  unfold lkW at HE
                  generalize Tagm.tk c.sz l = tk at HE hrt ⊢
                  generalize Tagm.tp c.sz l = tp at HE hrt ⊢
                  generalize Tagm.ts c.sz l = ts at HE hrt ⊢
                  generalize Tagm.te c.sz l = te at HE hrt ⊢
                  unfold tg
                  obtain ⟨U2, hU2⟩ : ∃ U, w2.alloc (.cells #[.int .i64 tk, .int .u32 tp, .int .u64 ts, .int .u64 te] 61) = U := ⟨_, rfl⟩
                  have hbA : Below w2.heap.size w2 U2 := hU2 ▸ (Below.refl _ _).alloc (Nat.le_refl _) _
                  have hb3 := hb2.trans (hbA.mono hb2.size)
                  obtain ⟨T, hT0⟩ : ∃ T, w2.heap.size = T := ⟨_, rfl⟩
                  have hTb : Blk U2 T 61 #[.int .i64 tk, .int .u32 tp, .int .u64 ts, .int .u64 te] := hU2 ▸ Blk.newAt _ _ hT0 _ _
                  have hsc2 := HSc1.out.below hb3
                  have hgn2 := HGn1.out.below hb3 HGn1.out.lt
                  have hr2 := HRd1.out.new hb3 HRd1.out.1.size HBc.out
                  have hsc3 := hsc2.putF hlt false
                  obtain ⟨⟨v9, hS9, -⟩, ⟨cF, hF9, -, hF8⟩, -⟩ := hsc2
                  have s1 : U2.cell? ⟨S, 1, none⟩ = some (.slice (some ⟨gF, 0, none⟩) c.nb c.nb) := (hS9.cell 1).trans rfl
                  have yF : U2.cell? ⟨gF, k, none⟩ = some (.bool (si.fr k)) := (hF9.cell k).trans (hF8 k hlt)
                  have zF := hF9.frozen k
                  have hKF : Kp (fun b => b = gF) U2 (U2.setCell ⟨gF, k, none⟩ (.bool false)) := Kp.one _ ⟨gF, k, none⟩ _
                  have hbF : Below w.heap.size U2 (U2.setCell ⟨gF, k, none⟩ (.bool false)) := (Below.refl _ _).setCell (p := ⟨gF, k, none⟩) HCn.out.1.2.1 _
                  have HGn3 := Lib.hid (hgn2.kp hKF (hgn2.ne hF9 (by decide)))
                  have HRd3 := Lib.hid (hr2.new hbF (Nat.le_refl _) HBc.out)
                  have HTb := Lib.hid (hTb.kp hKF (hTb.ne hF9 (by decide)))
                  have HSc3 := Lib.hid hsc3
                  clear hr hrl hs hEr HSt hb2 hb3 HT HSc1 HGn1 HRd1 hv hgn2 hS9 hF9 hF8 hKF hbF hbA hr2 hTb hsc3
                  go_wp2_with fail
                  clear s1 yF zF
                  generalize U2.setCell ⟨gF, k, none⟩ (.bool false) = U3 at HTb HSc3 HGn3 HRd3 ⊢
                  clear hU2
                  obtain ⟨⟨v9, hS9, -⟩, ⟨cF, hF9, -, hF8⟩, cE, hE9, -, hE8⟩ := HSc3.out
                  have s2 : U3.cell? ⟨S, 2, none⟩ = some (.slice (some ⟨gE, 0, none⟩) c.nb c.nb) := (hS9.cell 2).trans rfl
                  have yE : U3.cell? ⟨gE, k, none⟩ = some (.int .u64 (si.ep k)) := (hE9.cell k).trans (hE8 k hlt)
                  have zE := hE9.frozen k
                  have t3 : U3.cell? ⟨T, 3, none⟩ = some (.int .u64 te) := (HTb.out.cell 3).trans rfl
                  have hTE : T ≠ gE := HTb.out.ne hE9 (by decide)
                  have hSE : S ≠ gE := hS9.ne hE9 (by decide)
                  go_region
                  rw [if_mx]
                  have hsc4 : ScAt (U3.setCell ⟨gE, k, none⟩ (.int .u64 (max (si.ep k) te))).drew B2 S gF gE c.nb (lke (lkf si k) k te) := (HSc3.out.putE hlt (max (si.ep k) te)).below ((Below.refl _ _).drew)
                  have hKE : Kp (fun b => b = gE) U3 (U3.setCell ⟨gE, k, none⟩ (.int .u64 (max (si.ep k) te))).drew := (Kp.one _ ⟨gE, k, none⟩ _).drew
                  have hbE : Below w.heap.size U3 (U3.setCell ⟨gE, k, none⟩ (.int .u64 (max (si.ep k) te))).drew := ((Below.refl _ _).setCell (p := ⟨gE, k, none⟩) HCn.out.1.2.2 _).drew
                  have hgn4 := HGn3.out.kp hKE (HGn3.out.ne hE9 (by decide))
                  have htb4 := HTb.out.kp hKE hTE
                  have hrd4 := HRd3.out.new hbE (Nat.le_refl _) HBc.out
                  generalize (U3.setCell ⟨gE, k, none⟩ (.int .u64 (max (si.ep k) te))).drew = U4 at hsc4 hgn4 htb4 hrd4 ⊢
                  have t0 := htb4.cell 0
                  have t1 := htb4.cell 1
                  have t2 := htb4.cell 2
                  have t3 := htb4.cell 3
                  have HIs := Lib.hid (isSome_any tk tp ts te U4 hrt.1)
                  unfold tg at HIs
                  have HSc4 := Lib.hid hsc4
                  have HGn4 := Lib.hid hgn4
                  have HRd4 := Lib.hid hrd4
                  have HTb4 := Lib.hid htb4
                  clear hS9 hF9 hF8 hE9 hE8 s2 yE zE hTE hSE hKE hbE hsc4 hgn4 htb4 hrd4 HSc3 HGn3 HRd3 HTb
                  generalize hsm : isSm tk tp = sm at HE HIs
                  go_wp2_with fail
                  refine HIs.out.mono ?_
                  rintro e U5 ⟨rfl, hb5⟩
                  have HSc5 := Lib.hid (HSc4.out.below hb5)
                  have HGn5 := Lib.hid (HGn4.out.below hb5 HGn4.out.lt)
                  have HTb5 := Lib.hid (HTb4.out.below hb5 HTb4.out.lt)
                  have HRd5 := Lib.hid (HRd4.out.new hb5 HRd4.out.1.size HBc.out)
                  clear t0 t1 t2 t3 hb5 HIs HSc4 HGn4 HRd4 HTb4 hsm
                  cases sm with
                  | false =>
                    rw [if_neg (by decide)] at HE
                    go_wp2
                    first | go_roundw | (apply_assumption; go_wp2; go_roundw)
                    case rel => exact ⟨i + 1, by omega, by go_num, Lib.hid (by rw [HE.out]; exact HSc5.out), HGn5, HRd5⟩
                    case measure => simp [intOf]; omega
                  | true =>
                    rw [if_pos rfl] at HE
                    obtain ⟨⟨v9, hS9, hR9⟩, -, -⟩ := HSc5.out
                    obtain ⟨xa, xc, rfl⟩ := hR9.form
                    have y0 : U5.cell? ⟨S, 0, none⟩ = some (.slice xa (lke (lkf si k) k te).L.length xc) := (hS9.cell 0).trans rfl
                    have z0 := hS9.frozen 0
                    have t0 : U5.cell? ⟨T, 0, none⟩ = some (.int .i64 tk) := (HTb5.out.cell 0).trans rfl
                    have t1 : U5.cell? ⟨T, 1, none⟩ = some (.int .u32 tp) := (HTb5.out.cell 1).trans rfl
                    have t2 : U5.cell? ⟨T, 2, none⟩ = some (.int .u64 ts) := (HTb5.out.cell 2).trans rfl
                    have t3 : U5.cell? ⟨T, 3, none⟩ = some (.int .u64 te) := (HTb5.out.cell 3).trans rfl
                    have hln : (lke (lkf si k) k te).L.length ≤ 4200 := HLI.out
                    have hL0 : (lke (lkf si k) k te).L = si.L := rfl
                    obtain ⟨i0, hi0, hz0, hz1, hz2⟩ := infoFo_parts
                    have HBU : Hid (B2 ≤ U5.heap.size) := Lib.hid (by have := hS9.lt; have := HCn.out.2.1; omega)
                    rw [hL0] at hR9 hln y0
                    obtain ⟨sn, hsn⟩ : ∃ n, si.L.length = n := ⟨_, rfl⟩
                    have HRow : Hid (FoR (U5.alloc (.cells #[.int .i64 (k : Int), .int .i64 (i : Int), .int .i64 tk, .int .u32 tp, .int .u64 ts, .int .u64 te] 124)).drew B2 (.slice xa sn xc) si.L) := Lib.hid (by rw [← hsn]; exact (hR9.below ((Below.refl _ _).alloc (Nat.le_refl _) _)).below ((Below.refl _ _).drew))
                    rw [hsn] at y0 hln
                    have HSn : Hid (si.L.length ≤ 1000000) := Lib.hid (by omega)
                    have HS9 : Hid (Blk (U5.alloc (.cells #[.int .i64 (k : Int), .int .i64 (i : Int), .int .i64 tk, .int .u32 tp, .int .u64 ts, .int .u64 te] 124)).drew S 80 _) := Lib.hid (hS9.alloc (.cells #[.int .i64 (k : Int), .int .i64 (i : Int), .int .i64 tk, .int .u32 tp, .int .u64 ts, .int .u64 te] 124))
                    have HNw : Hid (Blk (U5.alloc (.cells #[.int .i64 (k : Int), .int .i64 (i : Int), .int .i64 tk, .int .u32 tp, .int .u64 ts, .int .u64 te] 124)).drew U5.heap.size 124 #[.int .i64 (k : Int), .int .i64 (i : Int), .int .i64 tk, .int .u32 tp, .int .u64 ts, .int .u64 te]) := Lib.hid (heap_alloc_new U5 _)
                    have HBa : Hid (B2 ≤ (U5.alloc (.cells #[.int .i64 (k : Int), .int .i64 (i : Int), .int .i64 tk, .int .u32 tp, .int .u64 ts, .int .u64 te] 124)).drew.heap.size) := Lib.hid (by have := HBU.out; simp; omega)
                    have HS0 : Hid (S < B2) := Lib.hid HCn.out.2.1.1
                    have c0a := cell_alloc y0 (.cells #[.int .i64 (k : Int), .int .i64 (i : Int), .int .i64 tk, .int .u32 tp, .int .u64 ts, .int .u64 te] 124)
                    clear hsn hS9 hR9 hL0
                    go_wp2_with fail
                    go_region_law (refine step_append_fo rfl (.tmp 90) (.tmp 96) rfl B2 (.slice xa sn xc) si.L (by simp [Act.eval]) HRow.out U5.heap.size 1 ⟨k, i, tk, tp, ts, te⟩ (by simp [Act.eval]) HSn.out HNw.out HBa.out ?_; intro v' w' hR' hb' hty; obtain ⟨a', c', rfl⟩ := hR'.form; have hk0 := (HS9.out.below hb' HS0.out).cell 0; have hk1 := (HS9.out.below hb' HS0.out).frozen 0)
                    all_goals
                      have hsc6 := ((HSc5.out.below ((Below.refl _ _).alloc (Nat.le_refl _) (.cells #[.int .i64 (k : Int), .int .i64 (i : Int), .int .i64 tk, .int .u32 tp, .int .u64 ts, .int .u64 te] 124))).below ((Below.refl _ _).drew)).putL ⟨HCn.out.2.1.1, HCn.out.2.1.2.1, HCn.out.2.1.2.2.1⟩ hb' (f := ⟨k, i, tk, tp, ts, te⟩) hR'
                      have hbA : Below U5.heap.size U5 (U5.alloc (.cells #[.int .i64 (k : Int), .int .i64 (i : Int), .int .i64 tk, .int .u32 tp, .int .u64 ts, .int .u64 te] 124)).drew := ((Below.refl _ _).alloc (Nat.le_refl _) _).drew
                      have hr6 := ((HRd5.out.new hbA HRd5.out.1.size HBc.out).new hb' HCn.out.2.2 HBc.out).new ((Below.refl w.heap.size w').setCell (p := ⟨S, 0, none⟩) HCn.out.1.1 (.slice a' (si.L ++ [(⟨k, i, tk, tp, ts, te⟩ : Fo)]).length c')) (Nat.le_refl _) HBc.out
                      have hK6 : Kp (fun b => b = S) w' (w'.setCell ⟨S, 0, none⟩ (.slice a' (si.L ++ [(⟨k, i, tk, tp, ts, te⟩ : Fo)]).length c')) := Kp.one _ ⟨S, 0, none⟩ _
                      have hgn6 := (hty _ _ _ (HGn5.out.below hbA HGn5.out.lt) (by decide)).kp hK6 (by
                        have := HGn5.out.ne (show Blk U5 S 80 _ from HSc5.out.blk.choose_spec.1) (by decide)
                        exact this)
                      have htb6 := (hty _ _ _ (HTb5.out.below hbA HTb5.out.lt) (by decide)).kp hK6 (by
                        have := HTb5.out.ne (show Blk U5 S 80 _ from HSc5.out.blk.choose_spec.1) (by decide)
                        exact this)
                      have elen : (si.L ++ [(⟨k, i, tk, tp, ts, te⟩ : Fo)]).length = si.L.length + 1 := by rw [List.length_append]; rfl
                      rw [elen] at hsc6 hr6 hgn6 htb6
                      clear hbA hK6 hty hk0 hk1 hR' hb' elen c0a y0 z0 t0 t1 t2 t3 HRow HS9 HNw HBa HSc5 HGn5 HRd5 HTb5 HBU
                      generalize w'.setCell ⟨S, 0, none⟩ (.slice a' (si.L.length + 1) c') = U6 at hsc6 hr6 hgn6 htb6 ⊢
                      have t0 : U6.cell? ⟨T, 0, none⟩ = some (.int .i64 tk) := (htb6.cell 0).trans rfl
                      have t3 : U6.cell? ⟨T, 3, none⟩ = some (.int .u64 te) := (htb6.cell 3).trans rfl
                      have HSc6 := Lib.hid hsc6
                      have HRd6 := Lib.hid hr6
                      have HGn6 := Lib.hid hgn6
                      by_cases hk2 : tk = 2
                      · rw [if_pos hk2] at HE
                        subst hk2
                        obtain ⟨⟨v9, hS9, -⟩, -, -⟩ := hsc6
                        have s3 : U6.cell? ⟨S, 3, none⟩ = some (.int .u64 si.last) := (hS9.cell 3).trans rfl
                        have z3 := hS9.frozen 3
                        have hTS : T ≠ S := htb6.ne hS9 (by decide)
                        have HSc7 := Lib.hid (HSc6.out.putT (max si.last te))
                        have HRd7 := Lib.hid (hr6.new ((Below.refl w.heap.size U6).setCell (p := ⟨S, 3, none⟩) HCn.out.1.1 (.int .u64 (max si.last te))) (Nat.le_refl _) HBc.out)
                        have HGn7 := Lib.hid (hgn6.kp (Kp.one U6 ⟨S, 3, none⟩ (.int .u64 (max si.last te))) (hgn6.ne hS9 (by decide)))
                        have hmx := if_mx si.last te
                        clear hS9 hr6 hgn6 htb6 hTS
                        go_wp2_with fail
                        go_region
                        have HSc8 := Lib.hid (HSc7.out.below ((Below.refl _ _).drew))
                        have HRd8 := Lib.hid (HRd7.out.new ((Below.refl _ _).drew) HRd7.out.1.size HBc.out)
                        have HGn8 := Lib.hid (HGn7.out.below ((Below.refl _ _).drew) HGn7.out.lt)
                        go_wp2
                        first | go_roundw | (apply_assumption; go_wp2; go_roundw)
                        case rel => exact ⟨i + 1, by omega, by go_num, Lib.hid (by rw [HE.out]; exact HSc8.out), HGn8, HRd8⟩
                        case measure => simp [intOf]; omega
                      · rw [if_neg hk2] at HE
                        have hk3 : (tk == 2) = false := beq_false_of_ne hk2
                        clear hsc6 hr6 hgn6 htb6 t3
                        go_wp2
                        first | go_roundw | (apply_assumption; go_wp2; go_roundw)
                        case rel => exact ⟨i + 1, by omega, by go_num, Lib.hid (by rw [HE.out]; exact HSc6.out), HGn6, HRd6⟩
                        case measure => simp [intOf]; omega
            · have il : ¬ (i : Int) < (c.np : Int) := by omega
              have ei : i = c.np := by omega
              rw [ei] at HSc HRd
              go_wp2
              first | go_roundw | (apply_assumption; go_wp2; go_roundw)
              case rel => exact ⟨k + 1, by omega, by go_num, Lib.hid (by rw [HStep.out.1]; exact HSc.out), HGn, Lib.hid (by rw [HStep.out.2]; exact HRd.out)⟩
              case measure => simp [intOf]; omega
      · have kl : ¬ (k : Int) < (c.nb : Int) := by omega
        have ek : k = c.nb := by omega
        rw [ek] at HSc HRd
        have HEnd : Hid (LkP w o c (.returned (.tuple #[.pointer (some ⟨S, 0, none⟩), .int .i64 0])) wr) := Lib.hid ⟨⟨S, gF, gE, rfl, HCn.out.1, HSc.out.base HCn.out.2.2⟩, HRd.out⟩
        clear HSc HRd
        go_wp2
        first | go_ret2 | (rw [Exit.noGoto_ret]; go_ret2)
        exact HEnd.out
end Go.Proofs.YtbfifppdcmimaaaGreat
