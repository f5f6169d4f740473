/-
  A text's parts as a row: slices.Collect over the program's iterator.
-/
import Derived.Test.YtaielamimkigmaaPathMath
import Derived.RangeFuncNested
import Derived.RangeFuncCalls
import Derived.WalkMore
namespace Go.Proofs.Ytaielamimkigmaa
open Go.RowKit Go.Shelf Go.ChangeShapes

attribute [local go_sem] Oper.semAt_some

theorem own_formC {w : World} {base k : Nat} {v : Value} {xs : List Value} {e : TypeId} (h : w.ownsRow base e 1 v k xs) : ∃ a c, v = .slice a k c := by
  rcases h.2 with ⟨rfl, rfl⟩ | ⟨g, cap, cur, rfl, _⟩
  · exact ⟨none, 0, rfl⟩
  · exact ⟨_, cap, rfl⟩
theorem yr_len (f : Nat) : ∀ (s : ByteArray) (k : Bool), (yr f s k).length ≤ f := by
  induction f with
  | zero => intro s k; exact Nat.le_refl _
  | succ f ih =>
    intro s k
    have := ih (cB s) (cK s)
    unfold yr
    split
    · split
      · omega
      · simp; omega
    · simp
theorem yl_len (s : ByteArray) : (yl (cB s) (cK s)).length ≤ s.size := by
  have h1 := yr_len (ms (cB s) (cK s)) (cB s) (cK s)
  have h2 := ms_less s
  unfold yl
  have : ms s true = s.size + 1 := rfl
  omega

set_option maxRecDepth 100000 in
set_option maxHeartbeats 2000000 in
theorem appendSeq_any (s : ByteArray) (Bn : Nat) (w : World) (hs : s.size ≤ 100000) (hBl : Bn < w.heap.size) (hBc : w.cell? ⟨Bn, 0, none⟩ = some (.string s)) :
    Calls Try.prog 49 #[.slice none 0 0, .func (.func 50) #[] #[.pointer (some ⟨Bn, 0, none⟩)]] w fun e w' => (∃ a k c, e = .returned (.slice a k c) ∧ w'.ownsRow w.heap.size 9 1 (.slice a k c) k ((yl (cB s) (cK s)).map Value.string) ∧ (yl (cB s) (cK s)).length = k) ∧ Below w.heap.size w w' := by
  have hN := yl_len s
  obtain ⟨i0, hi, hz0, hz1, hz2⟩ := infoS_parts
  have b0 := Boxed.new w 27 (.slice none 0 0)
  have hB0 : Below w.heap.size w (w.alloc (.cells #[.slice none 0 0] 27)) := (Below.refl _ w).alloc (Nat.le_refl _) _
  have HSeq := Lib.hid (parts_stops 4 (by omega) Bn w.heap.size s (by omega) (w.alloc (.cells #[.slice none 0 0] 27)) (by simp; omega) (by simp) ((hB0.cell (p := ⟨Bn, 0, none⟩) hBl).trans hBc))
  refine (callsIn_wide (n := 5)).1 ?_
  refine callsIn_of_wp_marks Try.func49 rfl trivial ?_ rfl
  simp only [Try.ntmps49, List.size_toArray, List.length_cons, List.length_nil, Nat.reduceAdd, Nat.reduceSub, Array.replicate_succ, Array.replicate_zero, List.push_toArray, List.append_toArray, List.nil_append, List.cons_append]
  refine wpIn_wide.2 ?_
  go_wp2_with fail
  refine (wpIn_wide (n := 5)).1 ?_
  refine wpIn_rangeFunc_ownG rfl (by omega) (gf := 50) (lb := #[.pointer (some ⟨Bn, 0, none⟩)]) rfl trivial (enters_of Try.func50 (by kernel_rfl) rfl)
    HSeq.out belowK_t (belowK_b (by simp)) (Below.refl _ _) (fun _ => rfl)
    (fun pre W => (∃ v, Boxed W w.heap.size 27 v ∧ W.ownsRow w.heap.size 9 1 v pre.length (pre.map Value.string) ∧ True) ∧ Below w.heap.size w W)
    (fun _ _ _ => False)
    (OwnFrom.and (Own.from (holdsRow_own w.heap.size w.heap.size 27 9 1 (fun pre : List ByteArray => pre.length) (fun pre => pre.map Value.string) (fun _ _ => True)) _) (ownFrom_below (Nat.le_refl _) (by simp)))
    (fun _ _ _ _ _ hs _ _ => hs)
    ⟨⟨_, b0, World.ownsRow_nil _ _ _ _, trivial⟩, hB0⟩
    (fun x => { tmps := #[.slice none 0 0, .func (.func 50) #[] #[.pointer (some ⟨Bn, 0, none⟩)], .pointer (some ⟨w.heap.size, 0, none⟩), undef, .slice none 0 0, .string x, .func (.func 50) #[] #[.pointer (some ⟨Bn, 0, none⟩)], .string x, undef, undef, undef, undef, undef], defers := [] }) ?assign ?body ?done ?stop
  case assign =>
    intro l x W K hK
    gi_wp2
    exact hK
  case body =>
    rintro l pre x W ⟨⟨v, hv, hrow, -⟩, hB⟩ hlt
    obtain ⟨a0, c0, rfl⟩ := own_formC hrow
    have hc := hv.cell
    have hf := hv.frozen
    gi_wp2_with ((gi_at_builtin; refine wpListIn_append_own _ rfl _ _ 27 rfl w.heap.size 9 i0 (.string ⟨#[]⟩) 1 16 Try.underlying27 hi hz0 hz1 hz2 rfl (by decide) _ _ _ rfl (hrow.alloc _) ⟨W.heap.size, 0, none⟩ 1 1 [.string x] rfl rfl (cell_one_new _ _ _) (by simp [Value.oneCell']) (by unfold maxLen; omega) (by omega) (by have := hB.size; simp; omega) ?_; intro v' w1 hown' hgrow _; obtain ⟨g', cap', rfl⟩ := ownsRow_succ hown'; obtain ⟨hv1, hv2, hr2, hk2, hb2⟩ := hv.appended (by decide) hrow hB.size (Nat.le_refl _) hown' hgrow; have hc1 := hv1.cell; have hf1 := hv1.frozen))
    exact ⟨hk2.from _, hb2, ⟨_, hv2, by simpa using hr2, trivial⟩, hB.trans hb2⟩
  case done =>
    rintro D ys W hD rfl ⟨⟨v, hv, hrow, -⟩, hB⟩ hK
    obtain ⟨a0, c0, rfl⟩ := own_formC hrow
    have hc := hv.cell
    have hrp := ownsRow_putObj hrow (.deferred none) hK rfl
    go_wp2
    refine ⟨by simp, .inl ⟨_, _, rfl, run_takeDeferred hK, ?_⟩⟩
    refine ⟨_, results_tmp rfl _ _ _, ?_⟩
    exact ⟨⟨a0, _, c0, rfl, hrp, rfl⟩, hB.trans (belowK_b (w := w) (Nat.le_refl _) W D _ _ (by simp at hD; omega) hK rfl rfl)⟩
  case stop =>
    rintro D c pre W hD hpre h hK
    exact h.elim

set_option maxRecDepth 100000 in
theorem collect_any (s : ByteArray) (Bn : Nat) (w : World) (hs : s.size ≤ 100000) (hBl : Bn < w.heap.size) (hBc : w.cell? ⟨Bn, 0, none⟩ = some (.string s)) :
    Calls Try.prog 31 #[.func (.func 50) #[] #[.pointer (some ⟨Bn, 0, none⟩)]] w fun e w' => (∃ a k c, e = .returned (.slice a k c) ∧ w'.ownsRow w.heap.size 9 1 (.slice a k c) k ((yl (cB s) (cK s)).map Value.string) ∧ (yl (cB s) (cK s)).length = k) ∧ Below w.heap.size w w' := by
  have H := Lib.hid (appendSeq_any s Bn w hs hBl hBc)
  clear hs hBl hBc
  go_enter Try.func31, Try.ntmps31
  go_wp2_with fail
  refine H.out.mono ?_
  rintro e w2 ⟨⟨a, k, c, rfl, ho, hl⟩, hb⟩
  have HO := Lib.hid (And.intro ho hl)
  clear ho hl
  go_wp2
  go_ret
  exact ⟨⟨a, k, c, rfl, HO.out.1, HO.out.2⟩, hb⟩
end Go.Proofs.Ytaielamimkigmaa
