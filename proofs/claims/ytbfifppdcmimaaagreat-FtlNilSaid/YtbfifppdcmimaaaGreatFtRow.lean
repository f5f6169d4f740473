/-
  The translation: its manager's blocks as a row. Nothing of one statement alone stands here.
-/
import Derived.Test.YtbfifppdcmimaaaGreatMB
import Derived.Test.YtbfifppdcmimaaaGreatKL
namespace Go.Proofs.YtbfifppdcmimaaaGreat
open Go.RowKit Crcm Gcm Go.ChangeShapes

attribute [local go_sem] Oper.semAt_some

set_option maxRecDepth 100000 in
set_option maxHeartbeats 4000000 in
/-- a manager's blocks, gathered -/
theorem frow_any {w : World} {X : Nat → Prop} {M : Nat} {m : Mg} {o : Own} {c : Ch} (h : MgAt w M m) (hc : ChAt w X o c) (hp : m.cp = o.p) (hn : m.l.length = c.nb) {F : Nat} (hF : w.cell? ⟨F, 1, none⟩ = some (.pointer (some ⟨M, 0, none⟩))) :
    Calls Tryz.prog 60 #[.pointer (some ⟨F, 0, none⟩)] w fun e w' => ∃ a cap, e = .returned (.slice a c.nb cap) ∧ w'.ownsRow w.heap.size 144 4 (.slice a c.nb cap) c.nb (flat (wk c.wear m.l c.nb)) ∧ Below w.heap.size w w' := by
  obtain ⟨i0, hi, hz0, hz1, hz2⟩ := infoG_parts
  have hnb := hc.good.2.1
  have hb0 : Below w.heap.size w (w.alloc (.cells #[.slice none 0 0] 119)) := (Below.refl _ w).alloc (Nat.le_refl _) _
  have HW := Lib.hid (ball_any (h.below hb0) (hc.below hb0) hp hn)
  have HN := Lib.hid (show (wk c.wear m.l c.nb).length = c.nb by rw [wk_length, hn])
  have HB0 := Lib.hid hb0
  have hF1 := cell_alloc hF (.cells #[.slice none 0 0] 119)
  clear h hc hp hn hb0 hF
  refine (callsIn_wide (n := 5)).1 ?_
  refine callsIn_of_wp_marks Tryz.func60 rfl trivial ?_ rfl
  simp only [Tryz.ntmps60, List.size_toArray, List.length_cons, List.length_nil, Nat.reduceAdd, Nat.reduceSub, Array.replicate_succ, Array.replicate_zero, List.push_toArray, List.append_toArray, List.nil_append, List.cons_append]
  refine wpIn_wide.2 ?_
  go_wp2_with fail
  refine HW.out.mono ?_
  rintro e w1 ⟨Bn, g, cap, rfl, hs, hcl, hO, hb⟩
  have bN := (Boxed.new w 119 (.slice none 0 0))
  have bN1 : Boxed w1 w.heap.size 119 (.slice none 0 0) := (hb.block w.heap.size (by simp)).trans bN
  have hB1 := HB0.out.trans (hb.mono HB0.out.size)
  simp only [World.size_alloc] at hs
  have HSeq := Lib.hid (allk_stops 4 (by omega) Bn g cap c.nb (wk c.wear m.l c.nb) w1 hs.2.1 hs.2.2.2 (by omega) HN.out hcl hO)
  have hlw : w.heap.size < w1.heap.size := by omega
  have HWk : Hid (∀ (W : World) (k : Nat) (v : Value) {xs : List Value}, W.ownsRow w1.heap.size 144 4 v k xs → W.ownsRow w.heap.size 144 4 v k xs) := Lib.hid fun W k v xs h => by
    refine ⟨h.1, ?_⟩
    rcases h.2 with g | ⟨g, cap, cur, g1, g2, g3⟩
    · exact .inl g
    · exact .inr ⟨g, cap, cur, g1, by omega, g3⟩
  clear hb hcl hO HB0 bN HW
  go_wp2_with fail
  refine (wpIn_wide (n := 5)).1 ?_
  refine wpIn_rangeFunc_ownH rfl (by omega) (gf := 112) (lb := #[.pointer (some ⟨Bn, 0, none⟩)]) rfl trivial (enters_of Tryz.func112 (by kernel_rfl) rfl)
    HSeq.out Kz.trans (Kz.put hs.2.1 hs.2.2.2) (Below.refl _ _) (fun _ => rfl)
    (fun pre W => (∃ v, Boxed W w.heap.size 119 v ∧ W.ownsRow w1.heap.size 144 4 v pre.length (flat (pre.map Prod.snd)) ∧ True) ∧ Below w.heap.size w W ∧ w1.heap.size ≤ W.heap.size)
    (fun _ _ _ => False)
    (OwnFrom.and (Own.from (holdsRow_own w1.heap.size w.heap.size 119 144 4 (fun pre : List (Nat × Bk) => pre.length) (fun pre => flat (pre.map Prod.snd)) (fun _ _ => True)) _) (OwnFrom.and (ownFrom_below (by omega) (by omega)) (fun s A C row hs hg _ => Nat.le_trans hs hg.size)))
    (fun _ _ _ _ _ hs _ _ => hs)
    ⟨⟨_, bN1, World.ownsRow_nil _ _ _ _, trivial⟩, hB1, Nat.le_refl _⟩
    (fun x a' W => ∃ p, a' = { tmps := #[.pointer (some ⟨F, 0, none⟩), undef, .slice none 0 0, .pointer (some ⟨w.heap.size, 0, none⟩), undef, .pointer (some ⟨p, 0, none⟩), .pointer (some ⟨F, 0, none⟩), .pointer (some ⟨F, 0, none⟩), .pointer (some ⟨F, 1, none⟩), .pointer (some ⟨M, 0, none⟩), .func (.func 112) #[] #[.pointer (some ⟨Bn, 0, none⟩)], .int .i64 (x.1 : Nat), x.2.v, undef, undef, undef, undef, undef], defers := [] } ∧ Blk W p 144 #[.int .i64 x.2.st, .int .i64 x.2.lv, .int .i64 x.2.wr, .int .i64 x.2.nx] ∧ w1.heap.size ≤ p)
    (fun x a' _ W W' row ⟨p, e, hb, hp⟩ hg hr => ⟨p, e, blk_ownF (β := Unit) _ p _ _ () W W' row hb hg hr, hp⟩) ?assign ?body ?done ?stop
  case assign =>
    rintro y pre ⟨k, z⟩ W K ⟨⟨v, hv, hrow, -⟩, hB, hS⟩ hK
    obtain ⟨st, lv, wx, nx⟩ := z
    unfold Bk.v at *
    dsimp only at *
    gi_wp2
    exact hK _ _ (KeepsFrom.of_grownBy (World.grownBy_alloc W _ none) (fun r e => by cases e)) ⟨Below.heap_alloc _ _ _ (by omega), Below.heap_alloc _ _ _ (by omega)⟩ ⟨⟨v, hv.alloc _, hrow.alloc _, trivial⟩, hB.alloc hB.size _, by rw [World.size_alloc]; omega⟩ ⟨W.heap.size, rfl, Blk.new _ _ _, hS⟩
  case body =>
    rintro y pre ⟨k, z⟩ a' W hy hlp ⟨⟨v, hv, hrow, -⟩, hB, hS⟩ ⟨p, rfl, hbk, hpz⟩ hlt
    obtain ⟨a0, c0, rfl⟩ := own_form4 hrow
    have hc := hv.cell
    have hf := hv.frozen
    have e0 : W.cell? ⟨p, 0, none⟩ = some (.int .i64 z.st) := hbk.cell 0
    have e1 : W.cell? ⟨p, 1, none⟩ = some (.int .i64 z.lv) := hbk.cell 1
    have e2 : W.cell? ⟨p, 2, none⟩ = some (.int .i64 z.wr) := hbk.cell 2
    have e3 : W.cell? ⟨p, 3, none⟩ = some (.int .i64 z.nx) := hbk.cell 3
    have hrw := HWk.out _ _ _ hrow
    have hNw := new_at W z W.heap.size rfl 144
    have hFo := flat_one [z]
    have hFl : flat ((pre ++ [(k, z)]).map Prod.snd) = flat (pre.map Prod.snd) ++ flat [z] := by rw [List.map_append, flat_append]; rfl
    unfold Bk.v at *
    dsimp only at *
    obtain ⟨st, lv, wx, nx⟩ := z
    dsimp only at *
    gi_wp2_with ((gi_at_builtin; refine wpListIn_append_own _ rfl _ _ 119 rfl w1.heap.size 144 i0 _ 4 32 Tryz.underlying119 hi hz0 hz1 hz2 rfl (by decide) _ _ _ rfl (hrow.alloc _) ⟨W.heap.size, 0, none⟩ 1 1 (flat [⟨st, lv, wx, nx⟩]) rfl rfl hNw hFo (by unfold maxLen; omega) (by omega) (by rw [World.size_alloc]; omega) ?_; intro v' w5 hown' hgrow _; obtain ⟨g', cap', rfl⟩ := own_form4 hown'; have hws := HWk.out _ _ _ hown'; obtain ⟨hv1, hv2, -, hk2, hb2⟩ := hv.appended (by decide) hrw (by omega) (Nat.le_refl _) hws hgrow; have hr2 := hown'.kept (grownBy_setCell' w5 w.heap.size (.slice g' (pre.length + 1) cap')) (.inr (hv1.not_row (by decide) hown').symm); have hc1 := hv1.cell; have hf1 := hv1.frozen))
    have hKz : ∀ j, j < w1.heap.size → j ≠ w.heap.size → (w5.setCell ⟨w.heap.size, 0, none⟩ (.slice g' (pre.length + 1) cap')).heap[j]? = W.heap[j]? := fun j hj hjw =>
      (Below.heap_setCell w5 ⟨w.heap.size, 0, none⟩ _ j hjw).trans ((hgrow.block j (by rw [World.size_alloc]; omega) (fun e0 => by
        have e : some j = (Value.slice a0 pre.length c0).ownBlock := e0
        rcases hrow.2 with ⟨h0, _⟩ | ⟨g', cap, cur, h0, hg, _⟩
        · rw [h0] at e; simp [Value.ownBlock] at e
        · rw [h0] at e
          simp [Value.ownBlock] at e
          omega)).trans (Below.heap_alloc _ _ _ (by omega)))
    refine ⟨hk2.from _, ⟨hKz Bn hs.2.1 (by omega), hKz g hs.2.2.2 (by omega)⟩, ⟨⟨_, hv2, ?_, trivial⟩, hB.trans hb2, Nat.le_trans hS hk2.size⟩⟩
    rw [hFl, List.length_append]
    exact hr2
  case done =>
    rintro D ys W hD rfl ⟨⟨v, hv, hrow, -⟩, hB, hS⟩ hK
    obtain ⟨a0, c0, rfl⟩ := own_form4 hrow
    have hc := hv.cell
    have hrp := ownsRow_putObj hrow (.deferred none) hK rfl
    go_wp2
    refine ⟨by simp, .inl ⟨_, _, rfl, run_takeDeferred hK, ?_⟩⟩
    refine ⟨_, results_tmp rfl _ _ _, ?_⟩
    have hB2 := hB.trans (belowK_b (w := w) (Nat.le_refl _) W D _ (.deferred none) (by omega) hK rfl rfl)
    have hw := HWk.out _ _ _ hrp
    have hE := enB_snd (wk c.wear m.l c.nb)
    rw [HN.out] at hE
    rw [hE] at hw
    have e1 : (enB (wk c.wear m.l c.nb) c.nb).length = c.nb := enB_len _ _
    refine ⟨a0, c0, ?_, ?_, hB2⟩
    · show Ending.returned (.slice a0 (enB (wk c.wear m.l c.nb) c.nb).length c0) = _
      rw [e1]
    · rw [e1] at hw
      exact hw
  case stop =>
    rintro D c pre W hD hpre h hK
    exact h.elim
end Go.Proofs.YtbfifppdcmimaaaGreat
