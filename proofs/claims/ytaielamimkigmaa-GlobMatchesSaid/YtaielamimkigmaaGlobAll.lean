/-
  The document's marks: what they are in memory; all bytes.
-/
import Derived.Test.YtaielamimkigmaaGlobQuoteR
import Derived.Deep.WholeRow
namespace Go.Proofs.Ytaielamimkigmaa
open Go.RowKit Go.ChangeShapes Globm Go.ChangeMaps

/-- 256 bytes, told of by a function -/
def bA (P : Nat → Bool) : Array Value := ((List.range 256).map fun i => Value.bool (P i)).toArray
/-- a mark -/
def mA (b : Bool) (P : Nat → Bool) : Array Value := (Value.bool b :: (List.range 256).map fun i => Value.bool (P i)).toArray
theorem bA_size (P : Nat → Bool) : (bA P).size = 256 := by simp [bA]
theorem mA_size (b : Bool) (P : Nat → Bool) : (mA b P).size = 257 := by simp [mA]
theorem bA_get (P : Nat → Bool) {i : Nat} (h : i < 256) : (bA P)[i]? = some (.bool (P i)) := by simp [bA, h]
theorem mA_get0 (b : Bool) (P : Nat → Bool) : (mA b P)[0]? = some (.bool b) := by simp [mA]
theorem mA_get (b : Bool) (P : Nat → Bool) {i : Nat} (h : i < 256) : (mA b P)[i + 1]? = some (.bool (P i)) := by simp [mA, h]
theorem bA_ext {P Q : Nat → Bool} (h : ∀ i, i < 256 → P i = Q i) : bA P = bA Q := by
  unfold bA
  congr 1
  exact List.map_congr_left fun i hi => by rw [h i (List.mem_range.1 hi)]
theorem mA_ext {b : Bool} {P Q : Nat → Bool} (h : ∀ i, i < 256 → P i = Q i) : mA b P = mA b Q := by
  unfold mA
  congr 2
  exact List.map_congr_left fun i hi => by rw [h i (List.mem_range.1 hi)]
theorem bA_set (P : Nat → Bool) (i : Nat) (u : Bool) : (bA P).setIfInBounds i (.bool u) = bA (fun x => if x = i then u else P x) := by
  apply Array.ext_getElem?
  intro k
  rw [Array.getElem?_setIfInBounds]
  rcases Nat.lt_or_ge k 256 with hk | hk
  · rw [bA_get _ hk, bA_get _ hk, bA_size]
    by_cases h : i = k
    · subst h; simp [hk]
    · rw [if_neg h, if_neg (fun e => h e.symm)]
  · rw [Array.getElem?_eq_none (by rw [bA_size]; exact hk), Array.getElem?_eq_none (by rw [bA_size]; exact hk), bA_size]
    by_cases h : i = k
    · subst h; simp; omega
    · rw [if_neg h]
theorem mA_set0 (b : Bool) (P : Nat → Bool) (u : Bool) : (mA b P).setIfInBounds 0 (.bool u) = mA u P := by simp [mA]
theorem mA_set (b : Bool) (P : Nat → Bool) (i : Nat) (u : Bool) : (mA b P).setIfInBounds (i + 1) (.bool u) = mA b (fun x => if x = i then u else P x) := by
  have h := congrArg Array.toList (bA_set P i u)
  have e : ∀ (b : Bool) (P : Nat → Bool), mA b P = (Value.bool b :: (bA P).toList).toArray := fun b P => by simp [mA, bA]
  rw [e, e, ← h]
  simp
theorem bA_one (P : Nat → Bool) : (bA P).all (·.oneCell') = true := by
  rw [Array.all_eq_true_iff_forall_mem]
  intro v hv
  simp only [bA, List.mem_toArray, List.mem_map] at hv
  obtain ⟨i, -, rfl⟩ := hv
  rfl
theorem mA_one (b : Bool) (P : Nat → Bool) : (mA b P).all (·.oneCell') = true := by
  rw [Array.all_eq_true_iff_forall_mem]
  intro v hv
  simp only [mA, List.mem_toArray, List.mem_cons, List.mem_map] at hv
  rcases hv with rfl | ⟨i, -, rfl⟩ <;> rfl
theorem zero82 : Try.zeroCells82 = bA (fun _ => false) := by kernel_rfl
theorem zero84 : Try.zeroCells84 = mA false (fun _ => false) := by kernel_rfl
theorem size82 : (Try.prog.info? 82).map (·.size) = some 256 := by kernel_rfl
theorem size84 : (Try.prog.info? 84).map (·.size) = some 257 := by kernel_rfl

theorem store82 (w : World) : Sem.run Try.prog (storeCells ⟨w.heap.size, 0, none⟩ Try.zeroCells82.toList) (w.alloc (.cells Try.zeroCells82 82)) = .ok () (w.alloc (.cells Try.zeroCells82 82)) :=
  run_storeCells_new w 82 _ _ (by rw [zero82, bA_size]; exact size82) rfl (by rw [zero82]; exact bA_one _)
theorem store84 (w : World) : Sem.run Try.prog (storeCells ⟨w.heap.size, 0, none⟩ Try.zeroCells84.toList) (w.alloc (.cells Try.zeroCells84 84)) = .ok () (w.alloc (.cells Try.zeroCells84 84)) :=
  run_storeCells_new w 84 _ _ (by rw [zero84, mA_size]; exact size84) rfl (by rw [zero84]; exact mA_one _ _)
theorem store82n (w : World) (o : Obj) : Sem.run Try.prog (storeCells ⟨w.heap.size + 1, 0, none⟩ Try.zeroCells82.toList) ((w.alloc o).alloc (.cells Try.zeroCells82 82)) = .ok () ((w.alloc o).alloc (.cells Try.zeroCells82 82)) := by
  have h := store82 (w.alloc o)
  simpa using h
theorem store84n (w : World) (o : Obj) : Sem.run Try.prog (storeCells ⟨w.heap.size + 1, 0, none⟩ Try.zeroCells84.toList) ((w.alloc o).alloc (.cells Try.zeroCells84 84)) = .ok () ((w.alloc o).alloc (.cells Try.zeroCells84 84)) := by
  have h := store84 (w.alloc o)
  simpa using h
theorem load82 {w : World} {g : Nat} {t : TypeId} {P : Nat → Bool} (h : Blk w g t (bA P)) : Sem.run Try.prog (loadVar 82 ⟨g, 0, none⟩) w = .ok (.agg (bA P)) w :=
  run_loadVar_row w g t 82 (bA P) (0, 0) _ h Try.underlying82 rfl (by rw [bA_size]; exact size82)
theorem load84 {w : World} {g : Nat} {t : TypeId} {b : Bool} {P : Nat → Bool} (h : Blk w g t (mA b P)) : Sem.run Try.prog (loadVar 84 ⟨g, 0, none⟩) w = .ok (.agg (mA b P)) w :=
  run_loadVar_row w g t 84 (mA b P) (0, 0) _ h Try.underlying84 rfl (by rw [mA_size]; exact size84)
theorem stor82 {w : World} {g : Nat} {t : TypeId} {P Q : Nat → Bool} (h : Blk w g t (bA P)) : Sem.run Try.prog (storeVar 82 ⟨g, 0, none⟩ (.agg (bA Q))) w = .ok () (w.setRow g (bA Q)) :=
  run_storeVar_row w g t 82 (bA P) (bA Q) h (by rw [bA_size]; exact size82) (by rw [bA_size, bA_size]) (bA_one _)
theorem stor84 {w : World} {g : Nat} {t : TypeId} {b c : Bool} {P Q : Nat → Bool} (h : Blk w g t (mA b P)) : Sem.run Try.prog (storeVar 84 ⟨g, 0, none⟩ (.agg (mA c Q))) w = .ok () (w.setRow g (mA c Q)) :=
  run_storeVar_row w g t 84 (mA b P) (mA c Q) h (by rw [mA_size]; exact size84) (by rw [mA_size, mA_size]) (mA_one _ _)
theorem storc82 {w : World} {g : Nat} {t : TypeId} {P Q : Nat → Bool} (h : Blk w g t (bA P)) : Sem.run Try.prog (storeCells ⟨g, 0, none⟩ (bA Q).toList) w = .ok () (w.setRow g (bA Q)) := by
  have := stor82 (Q := Q) h
  have hs := size82
  cases hq : Try.prog.info? 82 with
  | none => simp [hq] at hs
  | some i =>
    have hi : i.size = 256 := by simpa [hq] using hs
    simpa [storeVar, sizeOf, typeInfo, hq, Value.cells, hi, bA_size] using this
theorem storc84 {w : World} {g : Nat} {t : TypeId} {b c : Bool} {P Q : Nat → Bool} (h : Blk w g t (mA b P)) : Sem.run Try.prog (storeCells ⟨g, 0, none⟩ (mA c Q).toList) w = .ok () (w.setRow g (mA c Q)) := by
  have := stor84 (c := c) (Q := Q) h
  have hs := size84
  cases hq : Try.prog.info? 84 with
  | none => simp [hq] at hs
  | some i =>
    have hi : i.size = 257 := by simpa [hq] using hs
    simpa [storeVar, sizeOf, typeInfo, hq, Value.cells, hi, mA_size] using this
theorem size_setRow_ (w : World) (g : Nat) (cs : Array Value) : (w.setRow g cs).heap.size = w.heap.size := by simp [World.setRow]
theorem setRow_other_ (w : World) (g k : Nat) (cs : Array Value) (h : k ≠ g) : (w.setRow g cs).heap[k]? = w.heap[k]? := by
  simp only [World.setRow, Array.getElem?_modify]
  rw [if_neg (fun e => h e.symm)]
theorem below_rowG {B : Nat} {a w : World} (h : Below B a w) {g : Nat} (hg : B ≤ g) (cs : Array Value) : Below B a (w.setRow g cs) :=
  ⟨h.os, h.tape, h.output, by rw [size_setRow_]; exact h.size, fun k hk => (setRow_other_ w g k cs (by omega)).trans (h.block k hk)⟩
theorem bRowF {w : World} {g k : Nat} {t : TypeId} {cs : Array Value} (h : Blk w k t cs) (ds : Array Value) (hk : k ≠ g) : Blk (w.setRow g ds) k t cs := (setRow_other_ w g k ds hk).trans h
theorem bRow {w : World} {g : Nat} {t : TypeId} {cs : Array Value} (h : Blk w g t cs) (ds : Array Value) : Blk (w.setRow g ds) g t ds := setRow_heap w g cs ds t (0, 0) h

set_option maxRecDepth 100000 in
set_option maxHeartbeats 400000 in
theorem all_any (w : World) :
    Calls Try.prog 46 #[] w fun e w' => e = .returned (.agg (bA (fun _ => true))) ∧ Below w.heap.size w w' := by
  have F0 := store82n w (.cells Try.zeroCells82 82)
  have B0 : Hid (Blk ((w.alloc (.cells Try.zeroCells82 82)).alloc (.cells Try.zeroCells82 82)) (w.heap.size + 1) 82 (bA (fun x => decide (x < 0)))) := Lib.hid (by
    have h := Blk.new (w.alloc (.cells Try.zeroCells82 82)) 82 Try.zeroCells82
    rw [show (w.alloc (.cells Try.zeroCells82 82)).heap.size = w.heap.size + 1 by simp] at h
    rw [show (fun x => decide (x < 0)) = (fun _ => false : Nat → Bool) by funext x; simp, ← zero82]
    exact h)
  have R0 : Hid (Blk ((w.alloc (.cells Try.zeroCells82 82)).alloc (.cells Try.zeroCells82 82)) w.heap.size 82 (bA (fun _ => false))) := Lib.hid (by
    rw [← zero82]; exact (Blk.new w 82 Try.zeroCells82).alloc _)
  have L0 : Hid (Below w.heap.size w ((w.alloc (.cells Try.zeroCells82 82)).alloc (.cells Try.zeroCells82 82))) := Lib.hid (((Below.refl _ _).alloc (Nat.le_refl _) _).alloc (by simp) _)
  go_enter Try.func46, Try.ntmps46
  go_wp2_with fail
  go_loopw [2] (fun i wr => ∃ k : Nat, i = .int .i64 k ∧ k ≤ 256 ∧ Hid (Blk wr (w.heap.size + 1) 82 (bA (fun x => decide (x < k)))) ∧ Hid (Blk wr w.heap.size 82 (bA (fun _ => false))) ∧ Hid (Below w.heap.size w wr)) (fun i _ => 256 - (intOf i).toNat)
  case atStart => exact ⟨0, rfl, by omega, B0, R0, L0⟩
  case round =>
    obtain ⟨k, rfl, hk, B, R, L⟩ := hrel
    by_cases hlt : k < 256
    · have hltI : (k : Int) < 256 := by omega
      have hc : wr.cell? ⟨w.heap.size + 1, k, none⟩ = some (.bool (decide (k < k))) := by rw [B.out.cell, bA_get _ hlt]
      have hf := B.out.frozen k
      have HB2 : Hid (Blk (wr.setCell ⟨w.heap.size + 1, k, none⟩ (.bool true)) (w.heap.size + 1) 82 (bA (fun x => decide (x < k + 1)))) := Lib.hid (by
        have h := B.out.put k (.bool true)
        rw [bA_set] at h
        rw [bA_ext (Q := fun x => if x = k then true else decide (x < k))]
        · exact h
        · intro i _
          by_cases e : i = k
          · subst e; simp
          · rw [if_neg e, decide_eq_decide]; omega)
      have HR2 : Hid (Blk (wr.setCell ⟨w.heap.size + 1, k, none⟩ (.bool true)) w.heap.size 82 (bA (fun _ => false))) := Lib.hid (R.out.far (by simp) _)
      have HL2 : Hid (Below w.heap.size w (wr.setCell ⟨w.heap.size + 1, k, none⟩ (.bool true))) := Lib.hid (L.out.setCell (by simp) _)
      clear F0 B0 R0 L0
      go_wp2_with fail
      exact ⟨⟨k + 1, by go_num, by omega, HB2, HR2, HL2⟩, by simp only [intOf]; omega⟩
    · have hke : k = 256 := by omega
      have hB : Blk wr (w.heap.size + 1) 82 (bA (fun _ => true)) := by
        have h := B.out
        rw [bA_ext (Q := fun _ => true) (fun i hi => by simp; omega)] at h
        exact h
      have hltI : ¬ (k : Int) < 256 := by omega
      have hS := storc82 (Q := fun _ => true) R.out
      have hR := Lib.hid (bRow R.out (bA (fun _ => true)))
      have hL2 : Hid (Below w.heap.size w (wr.setRow w.heap.size (bA (fun _ => true)))) := Lib.hid (below_rowG L.out (Nat.le_refl _) _)
      clear F0 B0 R0 L0 hlt hk B hke
      go_wp2_with fail
      refine wp_load_row 82 _ rfl (w.heap.size + 1) rfl 82 (bA (fun _ => true)) (0, 0) _ hB Try.underlying82 rfl (by rw [bA_size]; exact size82) ?_
      go_wp2_with fail
      refine bodyPost_ret (v := .agg (bA (fun _ => true))) (results_cell_row (p := 0) (ty := 82) rfl _ _ w.heap.size 82 (bA (fun _ => true)) (0, 0) _ rfl hR.out Try.underlying82 rfl (by rw [bA_size]; exact size82)) rfl ?_
      exact ⟨rfl, hL2.out⟩
end Go.Proofs.Ytaielamimkigmaa
