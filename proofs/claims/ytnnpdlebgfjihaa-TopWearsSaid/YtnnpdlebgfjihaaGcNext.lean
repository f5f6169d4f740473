/-
  What is to be done next with a row of blocks: the program's answer. Nothing of one statement alone stands here.
-/
import Derived.Test.YtnnpdlebgfjihaaGcSearch
import Derived.Laws.EntriesVeiled
namespace Go.Proofs.Ytnnpdlebgfjihaa
open Go.RowKit Gcm Go.ChangeShapes

/-- what is looked for, as it lies in memory from a place on -/
def SrAt (w : World) (l : List Bk) (b off : Nat) (s : Sr) : Prop :=
  w.cell? ⟨b, off, none⟩ = some (.int .i64 s.kind) ∧ w.cell? ⟨b, off + 1, none⟩ = some (.bool s.room) ∧
  (∃ v, w.cell? ⟨b, off + 2, none⟩ = some v ∧ FitV v s.fit l w) ∧ ∃ v, w.cell? ⟨b, off + 3, none⟩ = some v ∧ BetV v s.bt l w

theorem old_cell {w : World} {o : Obj} {p : Addr} {v : Value} (h : w.cell? p = some v) : (w.alloc o).cell? p = some v :=
  (((Below.refl _ w).alloc (Nat.le_refl _) o).cell (block_lt_of_cell h)).trans h

theorem new_cell {w : World} {cs : Array Value} {t : TypeId} {j : Nat} {v : Value} (h : cs[j]? = some v) : (w.alloc (.cells cs t)).cell? ⟨w.heap.size, j, none⟩ = some v := by
  rw [cell_of_row _ w.heap.size j cs t (0, 0) (heap_alloc_new w _)]
  exact h

theorem both_held {W W' : World} {f : FuncId} {args : Array Value} {q : Addr} {u : Value} {p : Bk → Bool} {l : List Bk} (hc : W.cell? q = some u) (hb : Below W.heap.size W W')
    (h : Calls Try.prog f args W' fun e w' => ∃ v, e = .returned v ∧ Hid (FitV v p l w') ∧ Below W'.heap.size W' w') :
    Calls Try.prog f args W' fun e w' => ∃ g lb, e = .returned (.func (.func g) #[] lb) ∧ Hid (FitV (.func (.func g) #[] lb) p l w') ∧ Hid (Below W'.heap.size W' w') ∧ w'.cell? q = some u ∧ Below W.heap.size W w' :=
  h.mono fun _ _ ⟨v, he, hv, hb'⟩ => by
    obtain ⟨g, lb, rfl, h2⟩ := hv.out
    exact ⟨g, lb, he, hv, Lib.hid hb', ((hb.trans (hb'.mono hb.size)).cell (block_lt_of_cell hc)).trans hc, hb.trans (hb'.mono hb.size)⟩

set_option maxRecDepth 100000 in
set_option maxHeartbeats 1000000 in
theorem searches_any (l : List Bk) (p m : Int) (w : World) (hw : ∀ x ∈ l, wrap64 (x.wr - m) = x.wr - m) :
    Calls Try.prog 91 #[.int .i64 p, .int .i64 m] w fun e w' => ∃ b, e = .returned (.slice (some ⟨b, 0, none⟩) 6 6) ∧ (∀ i, i < 6 → SrAt w' l b (i * 4) (srs p m)[i]!) ∧ Below w.heap.size w w' := by
  obtain ⟨W, hWe⟩ : ∃ W, ((w.alloc (.cells #[.int .i64 p] 3)).alloc (.cells #[.int .i64 m] 3)).alloc (.cells #[.func (.func 106) #[] #[]] 127) = W := ⟨_, rfl⟩
  have hbW : Below w.heap.size w W := by rw [← hWe]; exact (((Below.refl _ w).alloc (Nat.le_refl _) _).alloc (by simp) _).alloc (by simp; omega) _
  have cp : W.cell? ⟨w.heap.size, 0, none⟩ = some (.int .i64 p) := by rw [← hWe]; exact old_cell (old_cell (by simp))
  have cm : W.cell? ⟨w.heap.size + 1, 0, none⟩ = some (.int .i64 m) := by rw [← hWe]; exact old_cell (by rw [show w.heap.size + 1 = (w.alloc (.cells #[.int .i64 p] 3)).heap.size by simp]; simp)
  have cf : W.cell? ⟨w.heap.size + 2, 0, none⟩ = some (.func (.func 106) #[] #[]) := by
    rw [← hWe]
    have e : w.heap.size + 2 = ((w.alloc (.cells #[.int .i64 p] 3)).alloc (.cells #[.int .i64 m] 3)).heap.size := by simp
    rw [e]
    generalize (w.alloc (.cells #[.int .i64 p] 3)).alloc (.cells #[.int .i64 m] 3) = w2
    simp
  have V1 := Lib.hid (show FitV (.func (.func 105) #[] #[]) stale l W from ⟨_, _, rfl, enters_go Try.func105 (by kernel_rfl) rfl, stale_on l W⟩)
  have V2 := Lib.hid (show FitV (.func (.func 106) #[] #[]) full l W from ⟨_, _, rfl, enters_go Try.func106 (by kernel_rfl) rfl, full_on l W⟩)
  have V3 := Lib.hid (show FitV (.func (.func 107) #[] #[.pointer (some ⟨w.heap.size + 2, 0, none⟩), .pointer (some ⟨w.heap.size, 0, none⟩)]) (loose p) l W from ⟨_, _, rfl, enters_go Try.func107 (by kernel_rfl) rfl, loose_on l p W _ _ cf cp⟩)
  have V4 := Lib.hid (show FitV (.func (.func 108) #[] #[]) empty l W from ⟨_, _, rfl, enters_go Try.func108 (by kernel_rfl) rfl, empty_on l W⟩)
  have V5 := Lib.hid (show FitV (.func (.func 109) #[] #[.pointer (some ⟨w.heap.size + 1, 0, none⟩)]) (may m) l W from ⟨_, _, rfl, enters_go Try.func109 (by kernel_rfl) rfl, may_on l m W _ cm hw⟩)
  have V6 := Lib.hid (show FitV (.func (.func 111) #[] #[.pointer (some ⟨w.heap.size + 1, 0, none⟩)]) (atLeast m) l W from ⟨_, _, rfl, enters_go Try.func111 (by kernel_rfl) rfl, atLeast_on l m W _ cm⟩)
  have B1 := Lib.hid (fun W' : World => show BetV (.func (.func 89) #[] #[]) lw l W' from ⟨_, _, rfl, enters_go Try.func89 (by kernel_rfl) rfl, lw_on l W'⟩)
  have B2 := Lib.hid (fun W' : World => show BetV (.func (.func 114) #[] #[]) ll l W' from ⟨_, _, rfl, enters_go Try.func114 (by kernel_rfl) rfl, ll_on l W'⟩)
  have C1 := Lib.hid (fun (W' : World) (hb : Below W.heap.size W W') => both_held cf hb (both_any l _ _ _ _ W' (V1.out.later hb) (V5.out.later hb)))
  have C2 := Lib.hid (fun (W' : World) (hb : Below W.heap.size W W') => both_held cf hb (both_any l _ _ _ _ W' (V3.out.later hb) (V5.out.later hb)))
  have C3 := Lib.hid (fun (W' : World) (hb : Below W.heap.size W W') => both_held cf hb (both_any l _ _ _ _ W' (V4.out.later hb) (V6.out.later hb)))
  have C4 := Lib.hid (fun (W' : World) (hb : Below W.heap.size W W') => both_held cf hb (both_any l _ _ _ _ W' (V2.out.later hb) (V6.out.later hb)))
  have e83 := enters_go Try.func112 (by kernel_rfl) rfl
  have HBW := Lib.hid hbW
  have HWE := Lib.hid hWe
  clear hw hWe cp cm hbW
  go_enter Try.func91, Try.ntmps91
  go_wp2_with fail
  rw [HWE.out]
  go_region_held3 (fun w' => w'.cell? ⟨w.heap.size + 2, 0, none⟩ = some (.func (.func 106) #[] #[]) ∧ Below W.heap.size W w')
    ((go_split_ands; refine ⟨?_, ?_⟩ <;> first | assumption | exact Below.drew (by assumption) | exact (Below.refl _ W).drew | exact Below.alloc (by assumption) (Below.size (by assumption)) _ | go_keep))
    (first
      | (go_at_call 112; refine (C1.out _ ?_).mono ?_; (go_split_ands; assumption); rintro e w1 ⟨g1, lb1, rfl, hv1, hk1, hc1, hb1⟩)
      | (go_at_call 112; refine (C2.out _ ?_).mono ?_; (go_split_ands; assumption); rintro e w2 ⟨g2, lb2, rfl, hv2, hk2, hc2, hb2⟩)
      | (go_at_call 112; refine (C3.out _ ?_).mono ?_; (go_split_ands; assumption); rintro e w3 ⟨g3, lb3, rfl, hv3, hk3, hc3, hb3⟩)
      | (go_at_call 112; refine (C4.out _ ?_).mono ?_; (go_split_ands; assumption); rintro e w4 ⟨g4, lb4, rfl, hv4, hk4, hc4, hb4⟩))
  go_wp2
  go_ret
  have k3 := Lib.hid (hk4.out)
  have k2 := Lib.hid (hk3.out.trans (hk4.out.mono hk3.out.size))
  have k1 := Lib.hid (hk2.out.trans (k2.out.mono hk2.out.size))
  refine ⟨w4.heap.size, rfl, ?_, ?_⟩
  · have hF := fun o => (Below.refl _ w4).alloc (Nat.le_refl _) o
    intro i hi
    match i, hi with
    | 0, _ => exact ⟨new_cell rfl, new_cell rfl, ⟨_, new_cell rfl, (hv1.out.later (k1.out.trans ((hF _).mono k1.out.size)))⟩, ⟨_, new_cell rfl, B1.out _⟩⟩
    | 1, _ => exact ⟨new_cell rfl, new_cell rfl, ⟨_, new_cell rfl, (hv2.out.later (k2.out.trans ((hF _).mono k2.out.size)))⟩, ⟨_, new_cell rfl, B2.out _⟩⟩
    | 2, _ => exact ⟨new_cell rfl, new_cell rfl, ⟨_, new_cell rfl, (hv3.out.later (k3.out.trans ((hF _).mono k3.out.size)))⟩, ⟨_, new_cell rfl, B1.out _⟩⟩
    | 3, _ => exact ⟨new_cell rfl, new_cell rfl, ⟨_, new_cell rfl, (hv4.out.later (hF _))⟩, ⟨_, new_cell rfl, B2.out _⟩⟩
    | 4, _ => exact ⟨new_cell rfl, new_cell rfl, ⟨_, new_cell rfl, (V1.out.later (hb4.trans ((hF _).mono hb4.size)))⟩, ⟨_, new_cell rfl, B1.out _⟩⟩
    | 5, _ => exact ⟨new_cell rfl, new_cell rfl, ⟨_, new_cell rfl, (V3.out.later (hb4.trans ((hF _).mono hb4.size)))⟩, ⟨_, new_cell rfl, B2.out _⟩⟩
    | i + 6, h => exact absurd h (by omega)
  · exact HBW.out.trans ((hb4.alloc hb4.size _).mono HBW.out.size)
end Go.Proofs.Ytnnpdlebgfjihaa
