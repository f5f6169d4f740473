/-
  A manager's blocks, handed on one by one. Nothing of one statement alone stands here.
-/
import Derived.Test.YtbfifppdcmimaaaGreatKK
import Derived.Test.YtbfifppdcmimaaaGreatKL
import Derived.RangeFuncNested
import Derived.RangeFuncCalls
import Derived.RangeFuncBox
import Derived.RangeFuncLeaves
import Derived.RangeFuncWrites
import Derived.Shelf.Abstract
import Derived.OwnWalkIn
import Derived.TacticsInMore
import Derived.LoopNIn
import Derived.LoopIn
namespace Go.Proofs.YtbfifppdcmimaaaGreat
open Go.RowKit Crcm Gcm Go.ChangeShapes

attribute [local go_sem] Oper.semAt_some

/-- the blocks with their numbers -/
def enB (l : List Bk) (n : Nat) : List (Nat × Bk) := (List.range n).map fun k => (k, l[k]!)
theorem enB_len (l : List Bk) (n : Nat) : (enB l n).length = n := by simp [enB]
theorem enB_succ (l : List Bk) (n : Nat) : enB l (n + 1) = enB l n ++ [(n, l[n]!)] := by simp [enB, List.range_succ]

theorem enB_snd (l : List Bk) : (enB l l.length).map Prod.snd = l := by
  unfold enB
  rw [List.map_map]
  apply List.ext_getElem
  · simp
  · intro i h1 h2
    rw [List.getElem_map, List.getElem_range]
    exact getElem!_pos l i h2
/-- two blocks lie as they lay -/
def Kz (Bn g : Nat) (A B : World) : Prop := B.heap[Bn]? = A.heap[Bn]? ∧ B.heap[g]? = A.heap[g]?
theorem Kz.trans {Bn g : Nat} {A B C : World} (h : Kz Bn g A B) (k : Kz Bn g B C) : Kz Bn g A C := ⟨k.1.trans h.1, k.2.trans h.2⟩
theorem Kz.put {Bn g n : Nat} (h1 : Bn < n) (h2 : g < n) (W : World) (l : Nat) (o o' : Obj) (hl : n ≤ l) (_ : W.heap[l]? = some o) (_ : o.isCells = false) (_ : o.isWalk = false) : Kz Bn g W (W.putObj l o') :=
  ⟨World.putObj_heap_other (by omega), World.putObj_heap_other (by omega)⟩

set_option maxRecDepth 100000 in
set_option maxHeartbeats 2000000 in
theorem allk_in (n : Nat) (_hn : 1 ≤ n) (y Bn g cap N : Nat) (l : List Bk) (J Jx : List (Nat × Bk) → World → Prop) (W : World) (hA : AbidesFrom W.heap.size J)
    (hY : ∀ pre x W1, J pre W1 → pre.length < N → YieldAt Fence.wide (n - 1) Tryz.prog y #[.int .i64 (x.1 : Nat), x.2.v] W1 fun e W' =>
      (e = .returned (.bool true) ∧ J (pre ++ [x]) W' ∧ Kz Bn g W1 W') ∨ (e = .returned (.bool false) ∧ Jx (pre ++ [x]) W'))
    (_hgl : g < W.heap.size) (hN : N ≤ 1000) (hl : l.length = N) (hc : W.cell? ⟨Bn, 0, none⟩ = some (.slice (some ⟨g, 0, none⟩) N cap)) (hg : OwnB W g l) (h0 : J [] W) :
    CallsIn Fence.wide n Tryz.prog 112 #[.func (.yield y) #[] #[], .pointer (some ⟨Bn, 0, none⟩)] W fun e W' => (∃ v, e = .returned v) ∧
      ((∃ ys, ys = enB l N ∧ J ys W') ∨ (∃ pre, True ∧ Jx pre W')) := by
  have HA : Hid (∀ pre w w', J pre w → Below w.heap.size w w' → J pre w') := Lib.hid fun pre w w' h hb => hA pre w w' none h ⟨hb.os, hb.tape, hb.output, hb.size, fun k hk _ => hb.block k hk⟩ (fun r e => by cases e)
  have HY := Lib.hid hY
  have HG := Lib.hid hg
  have HL := Lib.hid hl
  have HBl : Hid (∀ wr : World, wr.heap[Bn]? = W.heap[Bn]? → Bn < wr.heap.size) := Lib.hid fun wr h => by
    have h1 : Bn < W.heap.size := block_lt_of_cell hc
    rw [Array.getElem?_eq_getElem h1] at h
    exact (Array.getElem?_eq_some_iff.1 h).1
  clear hA hY hg hl
  refine callsIn_of_wp Tryz.func112 rfl trivial ?_ rfl
  simp only [Tryz.ntmps112, List.size_toArray, List.length_cons, List.length_nil, Nat.reduceAdd, Nat.reduceSub, Array.replicate_succ, Array.replicate_zero, List.push_toArray, List.append_toArray, List.nil_append, List.cons_append]
  gi_wp2_with fail
  gi_loopw [7] (fun i wr => ∃ k : Nat, k ≤ N ∧ i = .int .i64 k ∧ Hid (J (enB l k) wr) ∧ Hid (Kz Bn g W wr)) (fun i _ => N - (intOf i).toNat)
  case atStart => exact ⟨0, by omega, rfl, Lib.hid h0, Lib.hid ⟨rfl, rfl⟩⟩
  case round =>
    obtain ⟨k, hk, rfl, hJ, hB⟩ := hrel
    by_cases hlt : k < N
    · have kl : (k : Int) < (N : Int) := by omega
      have k0 : (0 : Int) ≤ (k : Int) := by omega
      have hBg : wr.heap[g]? = W.heap[g]? := hB.out.2
      obtain ⟨e0, e1, e2, e3⟩ := HG.out.at k (by rw [HL.out]; exact hlt)
      have e0 := (World.cell?_of_block (w := W) (w' := wr) (a := ⟨g, k * 4, none⟩) hBg).trans e0
      have e1 := (World.cell?_of_block (w := W) (w' := wr) (a := ⟨g, k * 4 + 1, none⟩) hBg).trans e1
      have e2 := (World.cell?_of_block (w := W) (w' := wr) (a := ⟨g, k * 4 + 2, none⟩) hBg).trans e2
      have e3 := (World.cell?_of_block (w := W) (w' := wr) (a := ⟨g, k * 4 + 3, none⟩) hBg).trans e3
      have HS : Hid (enB l (k + 1) = enB l k ++ [(k, l[k]!)]) := Lib.hid (enB_succ l k)
      have HLn : Hid ((enB l k).length < N) := Lib.hid (by rw [enB_len]; exact hlt)
      obtain ⟨x, hx⟩ : ∃ x, l[k]! = x := ⟨_, rfl⟩
      rw [hx] at e0 e1 e2 e3 HS
      obtain ⟨st, lv, wx, nx⟩ := x
      dsimp only at e0 e1 e2 e3
      have hgw : g < wr.heap.size := block_lt_of_cell e0
      have hbw : Bn < wr.heap.size := HBl.out wr hB.out.1
      have hW1 : Kz Bn g W (wr.alloc (.cells #[.int .i64 st, .int .i64 lv, .int .i64 wx, .int .i64 nx] 144)) := hB.out.trans ⟨Below.heap_alloc _ _ _ hbw, Below.heap_alloc _ _ _ hgw⟩
      have hJ1 : J (enB l k) (wr.alloc (.cells #[.int .i64 st, .int .i64 lv, .int .i64 wx, .int .i64 nx] 144)) := HA.out _ _ _ hJ.out ((Below.refl _ _).alloc (Nat.le_refl _) _)
      obtain ⟨fn, tmps, assign, body, hy, hR⟩ := HY.out (enB l k) (k, ⟨st, lv, wx, nx⟩) _ hJ1 HLn.out
      have HW1 := Lib.hid hW1
      clear hW1 hJ1 hJ hB hBg hx
      unfold Bk.v at hy
      dsimp only at hy
      gi_wp2_with fail
      refine hR.mono ?_
      rintro e W3 (⟨rfl, hJ3, hk3⟩ | ⟨rfl, hJx3⟩)
      · have HJ3 := Lib.hid hJ3
        have HB3 := Lib.hid (HW1.out.trans hk3)
        clear hJ3 hk3
        gi_wp2
        go_roundw
        case rel => exact ⟨k + 1, by omega, by go_num, by rw [HS.out]; exact HJ3, HB3⟩
        case measure => simp [intOf]; omega
      · have HJ3 := Lib.hid hJx3
        clear hJx3
        gi_wp2
        refine bodyPost_ret (results_none rfl _ _ _) rfl ?_
        exact ⟨⟨_, rfl⟩, .inr ⟨_, trivial, HJ3.out⟩⟩
    · have kl : ¬ (k : Int) < (N : Int) := by omega
      have : k = N := by omega
      subst this
      gi_wp2
      go_end0
      exact ⟨⟨_, rfl⟩, .inl hJ.out⟩
theorem allk_stops (n : Nat) (hn : 1 ≤ n) (Bn g cap N : Nat) (l : List Bk) (w : World) (hBl : Bn < w.heap.size) (hgl : g < w.heap.size) (hN : N ≤ 1000) (hl : l.length = N) (hc : w.cell? ⟨Bn, 0, none⟩ = some (.slice (some ⟨g, 0, none⟩) N cap)) (hg : OwnB w g l) :
    SeqStopsK Fence.wide n Tryz.prog 112 #[.pointer (some ⟨Bn, 0, none⟩)] (fun x : Nat × Bk => #[Value.int .i64 (x.1 : Nat), x.2.v]) (Kz Bn g) (fun ys => ys = enB l N) (fun _ => True) N w := fun y J Jx W hW hJ _ hY h0 =>
  allk_in n hn y Bn g cap N l J Jx W hJ hY (Nat.lt_of_lt_of_le hgl hW.size) hN hl ((hW.cell (p := ⟨Bn, 0, none⟩) hBl).trans hc) (hg.below hW hgl) h0
end Go.Proofs.YtbfifppdcmimaaaGreat

/-
  A manager's blocks as a row: All, and what the statements gather of it.
-/
namespace Go.Proofs.YtbfifppdcmimaaaGreat
open Go.RowKit Crcm Gcm Go.ChangeShapes

attribute [local go_sem] Oper.semAt_some

theorem bl_equalIn_func_nil (w : World) (n : Nat) (t : TypeId) (d : TypeDesc) (h : Tryz.prog.underlying t = some d) (hd : ∃ a b c, d = .func a b c) (f : Fn) (b l : Array Value) : (Op.equalIn (n + 1) t (.func f b l) .nilFunc).run Tryz.prog w = .ok false w := by
  obtain ⟨x, y, z, rfl⟩ := hd
  simp [Op.equalIn, run_underlying h]
theorem bl_eql_func_nil (w : World) (t : TypeId) (d : TypeDesc) (h : Tryz.prog.underlying t = some d) (hd : ∃ a b c, d = .func a b c) (f : Fn) (b l : Array Value) : (binOp .eql t (.func f b l) .nilFunc).run Tryz.prog w = .ok (.bool false) w := by
  simp only [binOp]
  simp [Op.equal, Op.maxDepth, bl_equalIn_func_nil w 9999 t d h hd f b l]

theorem blk_ownF {β : Type} (B p : Nat) (t : TypeId) (cs : Array Value) : OwnFrom B (fun (_ : β) W => Blk W p t cs) := fun s W W' row hs hg hr => by
  have hlt := Blk.lt hs
  refine (hg.block p hlt (fun e => ?_)).trans hs
  obtain ⟨_, o, ho, hn⟩ := hr p (by first | exact e | exact e.symm)
  unfold Blk at hs
  rw [hs] at ho
  cases ho
  simp [Obj.isCells] at hn

set_option maxRecDepth 100000 in
set_option maxHeartbeats 2000000 in
theorem ball_any {w : World} {X : Nat → Prop} {M : Nat} {m : Mg} {o : Own} {c : Ch} (h : MgAt w M m) (hc : ChAt w X o c) (hp : m.cp = o.p) (hn : m.l.length = c.nb) :
    Calls Tryz.prog 83 #[.pointer (some ⟨M, 0, none⟩)] w fun e w' => ∃ Bn g cap, e = .returned (.func (.func 112) #[] #[.pointer (some ⟨Bn, 0, none⟩)]) ∧ (w.heap.size ≤ Bn ∧ Bn < w'.heap.size ∧ w.heap.size ≤ g ∧ g < w'.heap.size) ∧ w'.cell? ⟨Bn, 0, none⟩ = some (.slice (some ⟨g, 0, none⟩) c.nb cap) ∧ OwnB w' g (wk c.wear m.l c.nb) ∧ Below w.heap.size w w' := by
  have hb0 : Below w.heap.size w (w.alloc (.cells #[.slice none 0 0] 119)) := (Below.refl _ w).alloc (Nat.le_refl _) _
  have B0 := Blk.new w 119 #[.slice none 0 0]
  have HW := Lib.hid (worn_any (h.below hb0) (hc.below hb0) hp hn)
  have HB0 := Lib.hid hb0
  obtain ⟨W0, hW0⟩ : ∃ W, w.alloc (.cells #[.slice none 0 0] 119) = W := ⟨_, rfl⟩
  have hsz : W0.heap.size = w.heap.size + 1 := by rw [← hW0]; simp
  rw [hW0] at HW B0 HB0
  have HS := Lib.hid hsz
  clear h hc hp hn hb0 hsz
  go_enter Tryz.func83, Tryz.ntmps83
  go_wp2_with (rw [hW0])
  refine HW.out.mono ?_
  rintro e w1 ⟨g, cap, rfl, hg, hO, hb⟩
  have hlt : w.heap.size < W0.heap.size := by rw [HS.out]; omega
  have B1 := B0.below hb hlt
  have d0 := B1.cell 0
  have f0 := B1.frozen 0
  have P := B1.put 0 (.slice (some ⟨g, 0, none⟩) c.nb cap)
  have hO2 := hO.far (p := ⟨w.heap.size, 0, none⟩) (by dsimp only; omega) (.slice (some ⟨g, 0, none⟩) c.nb cap)
  have hgl := hO2.lt
  have hB2 := (HB0.out.trans (hb.mono HB0.out.size)).setCell (p := ⟨w.heap.size, 0, none⟩) (Nat.le_refl _) (.slice (some ⟨g, 0, none⟩) c.nb cap)
  have HR := Lib.hid (And.intro (show (w.heap.size ≤ w.heap.size ∧ w.heap.size < (w1.setCell ⟨w.heap.size, 0, none⟩ (.slice (some ⟨g, 0, none⟩) c.nb cap)).heap.size ∧ w.heap.size ≤ g ∧ g < (w1.setCell ⟨w.heap.size, 0, none⟩ (.slice (some ⟨g, 0, none⟩) c.nb cap)).heap.size) from ⟨Nat.le_refl _, P.lt, by omega, hgl⟩) (And.intro (show (w1.setCell ⟨w.heap.size, 0, none⟩ (.slice (some ⟨g, 0, none⟩) c.nb cap)).cell? ⟨w.heap.size, 0, none⟩ = some (.slice (some ⟨g, 0, none⟩) c.nb cap) from P.cell 0) (And.intro hO2 hB2)))
  clear P hO hO2 hgl hB2 hb B1 B0 HW HB0 hlt
  go_wp2
  go_ret
  exact ⟨_, _, _, rfl, HR.out⟩

end Go.Proofs.YtbfifppdcmimaaaGreat
