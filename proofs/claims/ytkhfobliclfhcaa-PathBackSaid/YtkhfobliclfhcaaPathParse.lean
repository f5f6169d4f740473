/-
  A path's names: the program's call Parse. Nothing of one statement alone stands here.
-/
import Derived.Test.YtkhfobliclfhcaaPathIter
import Derived.RangeFuncNested
import Derived.RangeFuncCalls
import Derived.WalkMore
namespace Go.Proofs.Ytkhfobliclfhcaa
open Go.RowKit Go.Shelf Go.ChangeShapes

attribute [local go_sem] Oper.semAt_some

theorem chk_append {l : List ByteArray} (m : List ByteArray) {k : Nat} (h : k ≤ l.length) : chk (l ++ m) k = chk l k := by
  induction k with
  | zero => rfl
  | succ k ih =>
    have e : (l ++ m).getD k ⟨#[]⟩ = l.getD k ⟨#[]⟩ := by simp [List.getD_eq_getElem?_getD, List.getElem?_append_left (by omega : k < l.length)]
    simp only [chk]
    rw [ih (by omega), e]
theorem chk_last (l : List ByteArray) (x : ByteArray) (h : chk l l.length = 0) : chk (l ++ [x]) (l ++ [x]).length = if Nm x then (if 15 < l.length then 30 else 0) else 31 := by
  have e1 : (l ++ [x]).length = l.length + 1 := by simp
  have e2 : (l ++ [x]).getD l.length ⟨#[]⟩ = x := by simp [List.getD_eq_getElem?_getD]
  rw [e1]
  simp only [chk]
  rw [chk_append _ (Nat.le_refl _), if_pos h, e2]

theorem own_formS {w : World} {base k : Nat} {v : Value} {xs : List Value} {e : TypeId} (h : w.ownsRow base e 1 v k xs) : ∃ a c, v = .slice a k c := by
  rcases h.2 with ⟨rfl, rfl⟩ | ⟨g, cap, cur, rfl, _⟩
  · exact ⟨none, 0, rfl⟩
  · exact ⟨_, cap, rfl⟩

set_option maxRecDepth 100000 in
set_option maxHeartbeats 2000000 in
theorem parse_good (s : ByteArray) (w : World) (h2 : s.size ≤ 255) (hsl : slB s = true) : Calls Try.prog 16 #[.string s] w fun e w' =>
    ((chk (yl (cB s) (cK s)) (yl (cB s) (cK s)).length = 0 ∧ ∃ a k c, e = .returned (.tuple #[.slice a k c, .int .i64 0]) ∧ w'.ownsRow w.heap.size 9 1 (.slice a k c) k ((yl (cB s) (cK s)).map Value.string) ∧ (yl (cB s) (cK s)).length = k) ∨
     (chk (yl (cB s) (cK s)) (yl (cB s) (cK s)).length ≠ 0 ∧ e = .returned (.tuple #[.slice none 0 0, .int .i64 (chk (yl (cB s) (cK s)) (yl (cB s) (cK s)).length)]))) ∧ Below w.heap.size w w' := by
  have t2 : decide ((255 : Int) < (s.size : Int)) = false := by simp; omega
  have HP := Lib.hid (fun w => stringsHasPrefix_any s w)
  rw [hsl] at HP
  have HPa := Lib.hid (fun w => (callsIn_wide (n := 5)).1 (partsOf_in 5 s w))
  have HN := Lib.hid (fun x w => name_any x w)
  have HSt := Lib.hid (fun Bn n₀ w h1 h2' h3 => parts_stops 4 (by omega) Bn n₀ s (by omega) w h1 h2' h3)
  obtain ⟨i0, hi, hz0, hz1, hz2⟩ := infoS_parts
  clear hsl h2
  refine (callsIn_wide (n := 5)).1 ?_
  refine callsIn_of_wp_marks Try.func16 rfl trivial ?_ rfl
  simp only [Try.ntmps16, List.size_toArray, List.length_cons, List.length_nil, Nat.reduceAdd, Nat.reduceSub, Array.replicate_succ, Array.replicate_zero, List.push_toArray, List.append_toArray, List.nil_append, List.cons_append]
  refine wpIn_wide.2 ?_
  go_wp2_with fail
  go_step3
  go_wp2_with fail
  refine (HP.out _).mono ?_
  rintro e w1 ⟨rfl, rfl⟩
  go_wp2_with fail
  go_step3
  go_wp2_with fail
  refine (HPa.out _).mono ?_
  rintro e w2 ⟨rfl, rfl⟩
  go_wp2_with fail
  have bO := Boxed.new w 22 (.slice none 0 0)
  have bE := Boxed.new (w.alloc (.cells #[.slice none 0 0] 22)) 26 (.int .i64 0)
  rw [World.size_alloc] at bE
  have bN := Boxed.new ((w.alloc (.cells #[.slice none 0 0] 22)).alloc (.cells #[.int .i64 0] 26)) 9 (.string s)
  rw [World.size_alloc, World.size_alloc] at bN
  have hB0 : Below w.heap.size w (((w.alloc (.cells #[.slice none 0 0] 22)).alloc (.cells #[.int .i64 0] 26)).alloc (.cells #[.string s] 9)) := (((Below.refl _ w).alloc (Nat.le_refl _) _).alloc (by simp) _).alloc (by simp; omega) _
  refine (wpIn_wide (n := 5)).1 ?_
  refine wpIn_rangeFunc_ownG rfl (by omega) (gf := 31) (lb := #[.pointer (some ⟨w.heap.size + 1 + 1, 0, none⟩)]) rfl trivial (enters_of Try.func31 (by kernel_rfl) rfl)
    (HSt.out (w.heap.size + 1 + 1) w.heap.size _ (by simp) (by simp; omega) bN.cell) belowK_t (belowK_b (by simp; omega)) (Below.refl _ _) (fun _ => rfl)
    (fun pre W => ((∃ v, Boxed W w.heap.size 22 v ∧ W.ownsRow w.heap.size 9 1 v pre.length (pre.map Value.string) ∧ True) ∧ Boxed W (w.heap.size + 1) 26 (.int .i64 0)) ∧ (chk pre pre.length = 0 ∧ pre.length ≤ 16) ∧ Below w.heap.size w W)
    (fun c pre W => (c = .exit 0 ∧ chk pre pre.length ≠ 0) ∧ Boxed W (w.heap.size + 1) 26 (.int .i64 (chk pre pre.length)) ∧ Below w.heap.size w W)
    (OwnFrom.and (OwnFrom.and (Own.from (holdsRow_own w.heap.size w.heap.size 22 9 1 (fun pre : List ByteArray => pre.length) (fun pre => pre.map Value.string) (fun _ _ => True)) _) (Own.from (boxed_own (w.heap.size + 1) 26 (fun _ => .int .i64 0)) _)) (OwnFrom.and (ownFrom_pure _ _) (ownFrom_below (Nat.le_refl _) (by simp; omega))))
    (fun c => OwnFrom.and (ownFrom_pure _ _) (OwnFrom.and (Own.from (boxed_own (w.heap.size + 1) 26 (fun pre : List ByteArray => .int .i64 (chk pre pre.length))) _) (ownFrom_below (Nat.le_refl _) (by simp; omega))))
    ⟨⟨⟨_, (bO.alloc _).alloc _, World.ownsRow_nil _ _ _ _, trivial⟩, bE.alloc _⟩, ⟨rfl, by simp⟩, hB0⟩
    (fun x => { tmps := #[.string s, undef, .slice none 0 0, .int .i64 0, .pointer (some ⟨w.heap.size, 0, none⟩), .pointer (some ⟨w.heap.size + 1, 0, none⟩), .string x, .string s, .int .i64 s.size, .bool false, .bool false, .string s, .bool true, .bool false, .bool false, .string s, .func (.func 31) #[] #[.pointer (some ⟨w.heap.size + 1 + 1, 0, none⟩)], .string x, undef, undef, undef, undef, undef, undef, undef, undef, undef, undef, undef, undef, undef, undef, undef, undef], defers := [] }) ?assign ?body ?done ?stop
  case assign =>
    intro l x W K hK
    gi_wp2
    exact hK
  case body =>
    rintro l pre x W ⟨⟨⟨v, hv, hrow, -⟩, hE⟩, ⟨hc0, h16⟩, hB⟩ hlt
    obtain ⟨a0, c0, rfl⟩ := own_formS hrow
    have hc := hv.cell
    have hf := hv.frozen
    have hce := hE.cell
    have hfe := hE.frozen
    have hne : w.heap.size + 1 ≠ w.heap.size := by omega
    have HL := Lib.hid (chk_last pre x hc0)
    have HNx := Lib.hid (fun W => HN.out x W)
    by_cases hn : Nm x
    · rw [nm_yes hn] at HNx
      rw [if_pos hn] at HL
      by_cases h15 : 15 < pre.length
      · rw [if_pos h15] at HL
        have e16 : ((pre.length : Int) == 16) = true := by simp; omega
        gi_wp2_with (refine ⟨trivial, ?_⟩; gi_at_call 19; refine (CallsIn.inRound l (callsIn_wide.2 (HNx.out _))).mono ?_; rintro e w' ⟨rfl, rfl⟩)
        exact ⟨(KeepsOthers.setCell _ _ _).from _, ⟨rfl, by rw [HL.out]; decide⟩, by rw [HL.out]; exact hE.set _, hB.setCell (p := ⟨w.heap.size + 1, 0, none⟩) (by simp) _⟩
      · rw [if_neg h15] at HL
        have e16 : ((pre.length : Int) == 16) = false := by simp; omega
        gi_wp2_with (first
          | (refine ⟨trivial, ?_⟩; gi_at_call 19; refine (CallsIn.inRound l (callsIn_wide.2 (HNx.out _))).mono ?_; rintro e w' ⟨rfl, rfl⟩)
          | (gi_at_builtin; refine wpListIn_append_own _ rfl _ _ 22 rfl w.heap.size 9 i0 (.string ⟨#[]⟩) 1 16 Try.underlying22 hi hz0 hz1 hz2 rfl (by decide) _ _ _ rfl (hrow.alloc _) ⟨W.heap.size, 0, none⟩ 1 1 [.string x] rfl rfl (cell_one_new _ _ _) (by simp [Value.oneCell']) (by unfold maxLen; omega) (by omega) (by have := hB.size; simp; omega) ?_; intro v' w1 hown' hgrow _; obtain ⟨g', cap', rfl⟩ := ownsRow_succ hown'; obtain ⟨hv1, hv2, hr2, hk2, hb2⟩ := hv.appended (by decide) hrow hB.size (Nat.le_refl _) hown' hgrow; have hE1 := ((hE.alloc _).kept hgrow (hE.not_row (by decide) hrow)).other hne (.slice (some ⟨g', 0, none⟩) (pre.length + 1) cap'); have hc1 := hv1.cell; have hf1 := hv1.frozen))
        exact ⟨hk2.from _, hb2, ⟨⟨_, hv2, by simpa using hr2, trivial⟩, hE1⟩, ⟨HL.out, by simp; omega⟩, hB.trans hb2⟩
    · rw [nm_no hn] at HNx
      rw [if_neg hn] at HL
      gi_wp2_with (refine ⟨trivial, ?_⟩; gi_at_call 19; refine (CallsIn.inRound l (callsIn_wide.2 (HNx.out _))).mono ?_; rintro e w' ⟨rfl, rfl⟩)
      exact ⟨(KeepsOthers.setCell _ _ _).from _, ⟨rfl, by rw [HL.out]; decide⟩, by rw [HL.out]; exact hE.set _, hB.setCell (p := ⟨w.heap.size + 1, 0, none⟩) (by simp) _⟩
  case done =>
    rintro D ys W hD rfl ⟨⟨⟨v, hv, hrow, -⟩, hE⟩, ⟨hc0, h16⟩, hB⟩ hK
    obtain ⟨a0, c0, rfl⟩ := own_formS hrow
    have hc := hv.cell
    have hce := hE.cell
    have hrp := ownsRow_putObj hrow (.deferred none) hK rfl
    have E := Lib.hid hc0
    have hlen := hrow.1
    go_wp2
    rw [Exit.noGoto_ret]
    refine ⟨by simp, .inl ⟨_, _, rfl, run_takeDeferred hK, ?_⟩⟩
    refine ⟨.tuple #[.slice a0 (yl (cB s) (cK s)).length c0, .int .i64 0], by simp [results, Try.results16, go_sem], ?_⟩
    exact ⟨.inl ⟨E.out, a0, _, c0, rfl, hrp, rfl⟩, hB.trans (belowK_b (w := w) (Nat.le_refl _) W D _ _ (by simp at hD; omega) hK rfl rfl)⟩
  case stop =>
    rintro D c pre W hD hpre ⟨⟨rfl, hne0⟩, hE, hB⟩ hK
    have hce := hE.cell
    have HV : Hid (chk (yl (cB s) (cK s)) (yl (cB s) (cK s)).length = chk pre pre.length) := Lib.hid (by
      obtain ⟨m, hm⟩ := hpre
      rw [← hm, chk_stays (k := pre.length) (by rw [chk_append m (Nat.le_refl _)]; exact hne0) (by simp), chk_append m (Nat.le_refl _)])
    have HNE := Lib.hid hne0
    refine wpIn_wide.2 ?_
    go_wp2
    go_quiet (fail)
    go_wp2
    rw [Exit.noGoto_ret]
    refine ⟨by simp, .inl ⟨_, _, rfl, run_takeDeferred hK, ?_⟩⟩
    refine ⟨.tuple #[.slice none 0 0, .int .i64 (chk pre pre.length)], by simp [results, Try.results16, go_sem], ?_⟩
    exact ⟨.inr ⟨by rw [HV.out]; exact HNE.out, by rw [HV.out]⟩, (show Below w.heap.size w (W.drewN nq) from ⟨hB.os, hB.tape, hB.output, hB.size, hB.block⟩).trans (belowK_b (w := w) (Nat.le_refl _) (W.drewN nq) D _ _ (by simp at hD; omega) hK rfl rfl)⟩
end Go.Proofs.Ytkhfobliclfhcaa
