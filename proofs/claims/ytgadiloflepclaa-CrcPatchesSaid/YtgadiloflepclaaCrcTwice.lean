/-
  A step's columns done twice.
-/
import Derived.Test.YtgadiloflepclaaCrcOver
import Derived.StillTailTactics
import Derived.RegionTactic
namespace Go.Proofs.Ytgadiloflepclaa
open Go.RowKit Crcm Go.ChangeShapes

/-- an array of which the first j places hold the columns of c digits' steps, 0 behind -/
def pa (c j : Nat) : Array Value := ((List.range 32).map fun i => Value.int .u32 (if i < j then N (col c i) else 0)).toArray
theorem pa_size (c j : Nat) : (pa c j).size = 32 := by simp [pa]
theorem pa_all (c : Nat) : pa c 32 = ca c := by
  unfold pa ca
  rw [List.map_congr_left]
  intro i hi
  rw [if_pos (by simpa using hi)]
theorem pa_set (c j : Nat) : (pa c j).setIfInBounds j (.int .u32 (N (col c j))) = pa c (j + 1) := by
  apply Array.ext
  · simp [pa]
  · intro i h1 h2
    rw [Array.getElem_setIfInBounds (by simpa [pa] using h1)]
    simp only [pa, List.getElem_toArray, List.getElem_map, List.getElem_range]
    by_cases e : j = i
    · subst e; simp
    · have e1 : (i < j + 1) ↔ (i < j) := by omega
      simp [e, e1]

theorem Blk.new (w : World) (t : TypeId) (cs : Array Value) (g : Nat) (hg : g = w.heap.size) : Blk (w.alloc (.cells cs t)) g t cs := by subst hg; exact heap_alloc_new w _
theorem Blk.alloc {w : World} {g : Nat} {t : TypeId} {cs : Array Value} (h : Blk w g t cs) (o : Obj) : Blk (w.alloc o) g t cs := (Below.heap_alloc w o g h.lt).trans h
theorem alloc_size (w : World) (o : Obj) : (w.alloc o).heap.size = w.heap.size + 1 := by show (w.heap.push o).size = _; simp
theorem Blk.set_ {w : World} {g : Nat} {t : TypeId} {cs : Array Value} (h : Blk w g t cs) (i : Nat) (u : Value) : Blk (w.setCell ⟨g, i, none⟩ u) g t (cs.setIfInBounds i u) := heap_setCell_same w g i cs t u h
theorem Blk.far {w : World} {g : Nat} {t : TypeId} {cs : Array Value} (h : Blk w g t cs) {p : Addr} (hp : g ≠ p.block) (u : Value) : Blk (w.setCell p u) g t cs := (heap_setCell_other w p g u hp).trans h
theorem below_row {B : Nat} {a w : World} (h : Below B a w) {g : Nat} (hg : B ≤ g) (cs : Array Value) : Below B a (w.setRow g cs) :=
  ⟨h.os, h.tape, h.output, by rw [size_setRow]; exact h.size, fun k hk => (setRow_other w g k cs (by omega)).trans (h.block k hk)⟩
theorem ca_one (k : Nat) : (ca k).all (·.oneCell') = true := by
  rw [Array.all_eq_true_iff_forall_mem]
  intro v hv
  simp only [ca, List.mem_toArray, List.mem_map] at hv
  obtain ⟨i, -, rfl⟩ := hv
  rfl

theorem Try.size117 : (Try.prog.info? 117).map (·.size) = some 32 := by kernel_rfl
theorem step_load117 {ops : Array Oper} {o : Oper} {a : Act} {w : World} {K : Act → World → Prop} {Q : Exit → Act → World → Prop} {E : Prop} (hgd : o.guard = none) (x : Operand) (ho : o.op = .load 117 x)
    (g : Nat) (hx : a.eval x = .pointer (some ⟨g, 0, none⟩)) (cs : Array Value) (hb : Blk w g 117 cs) (hs : cs.size = 32) (h : K (a.put o.dst (.agg cs)) w) :
    if Region.wanted o (yielded ops a.tmps) = true then o.wp Try.prog a w K Q else E := by
  have hw : Region.wanted o (yielded ops a.tmps) = true := by simp [Region.wanted, hgd]
  rw [if_pos hw]
  unfold Oper.wp execOp
  simp only [ho, hx, Instr.loadAt, Instr.sureAddr, Sem.run_bind, Sem.run_pure, Result.andThen_ok, run_loadVar_row w g _ _ _ _ _ hb Try.underlying117 rfl (by rw [Try.size117, hs])]
  exact h

set_option maxRecDepth 100000 in
set_option maxHeartbeats 400000 in
theorem twice_any (k : Nat) (w : World) :
    Calls Try.prog 85 #[.agg (ca k)] w fun e w' => e = .returned (.agg (ca (k + k))) ∧ Below w.heap.size w w' := by
  have hs := ca_size k
  go_enter Try.func85, Try.ntmps85
  go_wp2
  generalize hz0 : (#[Value.int IntKind.u32 0, Value.int IntKind.u32 0, Value.int IntKind.u32 0, Value.int IntKind.u32 0,
        Value.int IntKind.u32 0, Value.int IntKind.u32 0, Value.int IntKind.u32 0, Value.int IntKind.u32 0,
        Value.int IntKind.u32 0, Value.int IntKind.u32 0, Value.int IntKind.u32 0, Value.int IntKind.u32 0,
        Value.int IntKind.u32 0, Value.int IntKind.u32 0, Value.int IntKind.u32 0, Value.int IntKind.u32 0,
        Value.int IntKind.u32 0, Value.int IntKind.u32 0, Value.int IntKind.u32 0, Value.int IntKind.u32 0,
        Value.int IntKind.u32 0, Value.int IntKind.u32 0, Value.int IntKind.u32 0, Value.int IntKind.u32 0,
        Value.int IntKind.u32 0, Value.int IntKind.u32 0, Value.int IntKind.u32 0, Value.int IntKind.u32 0,
        Value.int IntKind.u32 0, Value.int IntKind.u32 0, Value.int IntKind.u32 0, Value.int IntKind.u32 0] : Array Value) = z
  have hz1 : z = pa (k + k) 0 := by rw [← hz0]; rfl
  have hz2 : z.size = 32 := by rw [← hz0]; rfl
  subst hz1
  clear hz0
  go_loopw [5] (fun c wr => ∃ j : Nat, j ≤ 32 ∧ c = .int .i64 j ∧ Blk wr w.heap.size 117 (ca k) ∧ Blk wr (w.heap.size + 1) 117 (pa (k + k) 0) ∧ Blk wr (w.heap.size + 1 + 1) 117 (pa (k + k) j) ∧ Below w.heap.size w wr) (fun c _ => 32 - (intOf c).toNat)
  case atStart =>
    refine ⟨0, by omega, rfl, ?_, ?_, ?_, ?_⟩
    · exact ((Blk.new w _ _ _ rfl).alloc _).alloc _
    · exact (Blk.new _ _ _ _ (by rw [alloc_size])).alloc _
    · exact Blk.new _ _ _ _ (by rw [alloc_size, alloc_size])
    · exact (((Below.refl _ _).alloc (Nat.le_refl _) _).alloc (by rw [alloc_size]; omega) _).alloc (by rw [alloc_size, alloc_size]; omega) _
  case round =>
    obtain ⟨j, hj, rfl, q0, q1, q2, hbel⟩ := hrel
    by_cases hlt : j < 32
    · have hc := (q0.cell j).trans (ca_get k j hlt)
      have hf := q2.frozen j
      have hl2 := q2.lt
      obtain ⟨v0, hd⟩ : ∃ v0, wr.cell? ⟨w.heap.size + 1 + 1, j, none⟩ = some v0 := by
        refine ⟨(pa (k + k) j)[j]'(by rw [pa_size]; exact hlt), ?_⟩
        rw [q2.cell j]; simp [pa_size, hlt]
      go_wp2
      have q0d : Blk wr.drew w.heap.size 117 (ca k) := q0
      refine wp_region_any (by kernel_rfl) ?_
      refine wpAny_take (i := 0) (v := .int .i64 j) rfl (by kernel_rfl) (by kernel_rfl) (by kernel_rfl) (fun _ _ _ h => h) (Or.inl ⟨by rfl, ?_⟩) ?_
      · intro w; go_simp
      refine wpAny_take (i := 2) (v := .int .i64 j) rfl (by kernel_rfl) (by kernel_rfl) (by kernel_rfl) (fun _ _ _ h => h) (Or.inl ⟨by rfl, ?_⟩) ?_
      · intro w; go_simp
      refine wpAny_take (i := 3) (v := .pointer (some ⟨w.heap.size, j, none⟩)) rfl (by kernel_rfl) (by kernel_rfl) (by kernel_rfl) (fun _ _ _ h => h) (Or.inl ⟨by rfl, ?_⟩) ?_
      · intro w; go_simp
      refine wpAny_ready (rs := [1, 4]) (by kernel_rfl) (by simp) ?_
      refine AllReady.cons rfl (fun K hK => ?_) (AllReady.cons rfl (fun K hK => ?_) AllReady.nil)
      · refine step_load117 rfl _ rfl w.heap.size rfl (ca k) q0d hs ?_
        refine hK _ _ ?_
        clear hK K
        refine wpAny_ready (rs := [4]) (by kernel_rfl) (by simp) ?_
        refine AllReady.cons rfl (fun K hK => ?_) AllReady.nil
        go_simp
        refine hK _ _ ?_
        clear hK K
        refine wpAny_ready (rs := [5]) (by kernel_rfl) (by simp) ?_
        refine AllReady.cons rfl (fun K hK => ?_) AllReady.nil
        go_simp
        refine (of_any k _ _ (U32_N _)).mono ?_
        rintro e w2 ⟨rfl, hb2⟩
        have hc2 := (hb2.cell (p := ⟨w.heap.size + 1 + 1, j, none⟩) hl2).trans hd
        have hf2 := (hb2.frozen (p := ⟨w.heap.size + 1 + 1, j, none⟩) hl2).trans hf
        refine hK _ _ ?_
        clear hK K
        refine wpAny_ready (rs := [6]) (by kernel_rfl) (by simp) ?_
        refine AllReady.cons rfl (fun K hK => ?_) AllReady.nil
        go_simp
        refine hK _ _ ?_
        clear hK K
        refine wpAny_ready (rs := [7]) (by kernel_rfl) (by simp) ?_
        refine AllReady.cons rfl (fun K hK => ?_) AllReady.nil
        go_simp
        refine hK _ _ ?_
        clear hK K
        refine wpAny_done (by kernel_rfl) ?_ _
        go_wp2
        go_roundw
        case rel =>
          have s0 := hb2.size
          refine ⟨j + 1, by omega, by go_num, ?_, ?_, ?_, ?_⟩
          · exact (Blk.below (w := wr.drew) q0 hb2 q0.lt).far (by simp; omega) _
          · exact (Blk.below (w := wr.drew) q1 hb2 q1.lt).far (by simp) _
          · have q2' := (Blk.below (w := wr.drew) q2 hb2 q2.lt).set_ j (.int .u32 (N (col (k + k) j)))
            rw [pa_set] at q2'
            rw [V_N, col_twice]
            exact q2'
          · exact ((hbel.drew).trans (hb2.mono hbel.size)).setCell (p := ⟨w.heap.size + 1 + 1, j, none⟩) (by simp; omega) _
        case measure => simp [intOf]; omega
      · go_simp
        refine hK _ _ ?_
        clear hK K
        refine wpAny_ready (rs := [1]) (by kernel_rfl) (by simp) ?_
        refine AllReady.cons rfl (fun K hK => ?_) AllReady.nil
        refine step_load117 rfl _ rfl w.heap.size rfl (ca k) q0d hs ?_
        refine hK _ _ ?_
        clear hK K
        refine wpAny_ready (rs := [5]) (by kernel_rfl) (by simp) ?_
        refine AllReady.cons rfl (fun K hK => ?_) AllReady.nil
        go_simp
        refine (of_any k _ _ (U32_N _)).mono ?_
        rintro e w2 ⟨rfl, hb2⟩
        have hc2 := (hb2.cell (p := ⟨w.heap.size + 1 + 1, j, none⟩) hl2).trans hd
        have hf2 := (hb2.frozen (p := ⟨w.heap.size + 1 + 1, j, none⟩) hl2).trans hf
        refine hK _ _ ?_
        clear hK K
        refine wpAny_ready (rs := [6]) (by kernel_rfl) (by simp) ?_
        refine AllReady.cons rfl (fun K hK => ?_) AllReady.nil
        go_simp
        refine hK _ _ ?_
        clear hK K
        refine wpAny_ready (rs := [7]) (by kernel_rfl) (by simp) ?_
        refine AllReady.cons rfl (fun K hK => ?_) AllReady.nil
        go_simp
        refine hK _ _ ?_
        clear hK K
        refine wpAny_done (by kernel_rfl) ?_ _
        go_wp2
        go_roundw
        case rel =>
          have s0 := hb2.size
          refine ⟨j + 1, by omega, by go_num, ?_, ?_, ?_, ?_⟩
          · exact (Blk.below (w := wr.drew) q0 hb2 q0.lt).far (by simp; omega) _
          · exact (Blk.below (w := wr.drew) q1 hb2 q1.lt).far (by simp) _
          · have q2' := (Blk.below (w := wr.drew) q2 hb2 q2.lt).set_ j (.int .u32 (N (col (k + k) j)))
            rw [pa_set] at q2'
            rw [V_N, col_twice]
            exact q2'
          · exact ((hbel.drew).trans (hb2.mono hbel.size)).setCell (p := ⟨w.heap.size + 1 + 1, j, none⟩) (by simp; omega) _
        case measure => simp [intOf]; omega
    · have hj32 : j = 32 := by omega
      subst hj32
      rw [pa_all] at q2
      go_wp2_with (first | (refine wpList_load_row rfl 117 _ rfl (w.heap.size + 1 + 1) rfl 117 (ca (k + k)) (0, 0) _ q2 Try.underlying117 rfl (by rw [Try.size117, ca_size]) ?_) | (refine wpList_store_row rfl 117 _ _ rfl (w.heap.size + 1) (ca (k + k)) rfl rfl 117 _ q1 (by rw [Try.size117, ca_size]) (by rw [ca_size, pa_size]) (ca_one _) ?_))
      refine bodyPost_ret (v := .agg (ca (k + k))) (results_cell_row (p := 2) (ty := 117) rfl _ _ (w.heap.size + 1) 117 (ca (k + k)) (0, 0) _ rfl (setRow_heap wr _ _ _ _ _ q1) Try.underlying117 rfl (by rw [Try.size117, ca_size])) rfl ⟨rfl, below_row hbel (by omega) _⟩

end Go.Proofs.Ytgadiloflepclaa
