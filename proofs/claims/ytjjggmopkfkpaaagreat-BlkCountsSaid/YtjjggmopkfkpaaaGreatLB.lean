/-
  The document's manager opened, behind its first tests. Nothing of one statement alone stands here.
-/
import Derived.Test.YtjjggmopkfkpaaaGreatLA
import Derived.Test.YtjjggmopkfkpaaaGreatKY
import Derived.Test.YtjjggmopkfkpaaaGreatKR
import Derived.Test.YtjjggmopkfkpaaaGreatKB
import Derived.Test.YtjjggmopkfkpaaaGreatKI
import Derived.Test.YtjjggmopkfkpaaaGreatKA
namespace Go.Proofs.YtjjggmopkfkpaaaGreat
open Go.RowKit Crcm Gcm Go.ChangeShapes

/-- what opening comes to -/
def RoP (w : World) (X : Nat → Prop) (o : Rb) (nb np sz : Nat) (f : Nat → Bool) (lv : Nat → Int) (e : Ending) (w' : World) : Prop :=
  ((e = .returned (.tuple #[.pointer none, .int .i64 1]) ∧ ∃ j, j < nb ∧ okB np (f j) (lv j) = false) ∨
   (∃ q : Rq, e = .returned (.tuple #[.pointer (some ⟨q.d, 0, none⟩), .int .i64 0]) ∧ (∀ j, j < nb → okB np (f j) (lv j) = true) ∧ RmAt w' (fun b => X b ∨ q.F b) o q nb np sz false ∧ ∀ b, q.F b → w.heap.size ≤ b)) ∧ Below w.heap.size w w'

set_option maxRecDepth 100000 in
set_option maxHeartbeats 4000000 in
theorem rmopen_any {w : World} {X : Nat → Prop} {o : Rb} {nb np sz : Nat} (h : RcAt w X o nb np sz false) (f : Nat → Bool) (lv : Nat → Int) (fb fo c1 lb lo c2 : Nat)
    (hf : ∀ j, j < nb → w.cell? ⟨fb, fo + j, none⟩ = some (.bool (f j))) (hl : ∀ j, j < nb → w.cell? ⟨lb, lo + j, none⟩ = some (.int .i64 (lv j))) (r b : Int) (hr : 0 ≤ r) (hb0 : 0 ≤ b) :
    Calls Tryz.prog 26 #[.pointer (some ⟨o.g, 0, none⟩), .slice (some ⟨fb, fo, none⟩) nb c1, .slice (some ⟨lb, lo, none⟩) nb c2, .int .i64 r, .int .i64 b] w (RoP w X o nb np sz f lv) := by
  obtain ⟨i0, hi, hz0, hz1, hz2⟩ := info_parts Tryz.infoInt
  have hnb : nb < 129 := h.good.2.1
  have hn7 : 7 < nb := h.good.1
  obtain ⟨g0, -, -, cd, -⟩ := h.geo
  have HH := Lib.hid h
  have HF := Lib.hid hf
  have HL := Lib.hid hl
  have t3 : decide (r < 0) = false := decide_eq_false (by omega)
  have t4 : decide (b < 0) = false := decide_eq_false (by omega)
  clear h hf hl hr hb0
  go_enter Tryz.func26, Tryz.ntmps26
  go_wp2_with (at_make; refine wpList_make_blk _ rfl _ _ 24 rfl 3 i0 (.int .i64 0) 1 Tryz.underlying24 hi hz0 hz1 .i64 .i64 _ _ nb rfl rfl rfl rfl (by rw [hz2]; omega) (by unfold maxLen; omega) ?_)
  intro w1 hBk hB1 hS1
  obtain ⟨gn, hgn⟩ : ∃ gn, w.heap.size = gn := ⟨_, rfl⟩
  have hM0 : Mk w (w1.alloc (.cells #[.pointer (some ⟨o.g, 0, none⟩), .slice none 0 0, .slice none 0 0, .slice (some ⟨gn, 0, none⟩) nb nb, .int .i64 r, .int .i64 b, .bool false] 82)) o w1.heap.size gn nb r b (.slice none 0 0) 0 (.slice none 0 0) 0 := by
    refine ⟨hB1.out.alloc hB1.out.size _, Blk.new _ _ _, ⟨_, by rw [← hgn]; exact hBk.out.alloc _, fun i hi => ⟨0, made_get hi⟩⟩, ⟨[], World.ownsRow_nil _ _ _ _⟩, ⟨[], World.ownsRow_nil _ _ _ _⟩, fun g hg => (by cases hg), ?_, ?_⟩
    · omega
    · have := hS1.out; omega
  have HM0 := Lib.hid hM0
  have hDl : gn < w1.heap.size := hM0.lo.2
  clear hM0 hBk hB1 hS1 g0 cd
  rw [hgn]
  go_upto_region 7 with (fail)
  generalize (w1.alloc (.cells #[.pointer (some ⟨o.g, 0, none⟩), .slice none 0 0, .slice none 0 0, .slice (some ⟨gn, 0, none⟩) nb nb, .int .i64 r, .int .i64 b, .bool false] 82)) = w2 at HM0 ⊢
  generalize w1.heap.size = D at HM0 hDl ⊢
  clear hgn
  go_wp2_with fail
  go_loopw [14] (fun i wr => ∃ (k : Nat) (v1 v2 : Value), k ≤ nb ∧ i = .int .i64 k ∧ Hid (Mk w wr o D gn nb r b v1 k v2 k) ∧ Hid (∀ j, j < k → okB np (f j) (lv j) = true)) (fun i _ => nb - (intOf i).toNat)
  case atStart => exact ⟨0, _, _, by omega, rfl, HM0, Lib.hid (fun j hj => by omega)⟩
  case round =>
    obtain ⟨k, v1, v2, hk, rfl, hM, hO⟩ := hrel
    have HB := Lib.hid hM.out.bel
    clear HM0
    by_cases hlt : k < nb
    · have kl : (k : Int) < (nb : Int) := by omega
      have cl := (HB.out.cell (block_lt_of_cell (HL.out k hlt))).trans (HL.out k hlt)
      have cf := (HB.out.cell (block_lt_of_cell (HF.out k hlt))).trans (HF.out k hlt)
      have HR := Lib.hid (HH.out.below HB.out)
      obtain ⟨-, g1, -, -, -⟩ := HR.out.geo
      obtain ⟨x, hx⟩ : ∃ x, lv k = x := ⟨_, rfl⟩
      obtain ⟨t, ht⟩ : ∃ t, f k = t := ⟨_, rfl⟩
      rw [hx] at cl
      rw [ht] at cf
      have HX := Lib.hid (And.intro hx ht)
      have lcl := fun m' : Later wr => m'.cell cl
      have lcf := fun m' : Later wr => m'.cell cf
      have lg1 := fun m' : Later wr => m'.cell g1
      have HBad : Hid (okB np t x = false → ∀ w', Below w.heap.size w w' → RoP w X o nb np sz f lv (.returned (.tuple #[.pointer none, .int .i64 1])) w') := Lib.hid (fun e w' hb => ⟨.inl ⟨rfl, k, hlt, by rw [HX.out.1, HX.out.2]; exact e⟩, hb⟩)
      clear hx ht
      by_cases a0 : x < 0
      · have t0 : decide (x < 0) = true := decide_eq_true a0
        have E := HBad.out (by unfold okB; rw [decide_eq_false (show ¬ 0 ≤ x by omega)]; rfl)
        have HE := Lib.hid E
        clear a0 E HBad
        go_upto_region 10 with (fail)
        refine wp_region_later (by kernel_rfl) (by kernel_rfl) ?_
        repeat (go_big_quiet_step (fail))
        refine wpQuiet_nil ?_
        rintro _ ⟨m', rfl⟩
        go_wp2
        go_ret2
        exact HE.out _ (HB.out.trans (m'.bel.mono HB.out.size))
      have t0 : decide (x < 0) = false := decide_eq_false a0
      by_cases a1 : (np : Int) < x
      · have t1 : decide ((np : Int) < x) = true := decide_eq_true a1
        have E := HBad.out (by unfold okB; rw [decide_eq_false (show ¬ x ≤ np by omega)]; simp)
        have HE := Lib.hid E
        clear a0 a1 E HBad
        go_upto_region 10 with (fail)
        refine wp_region_later (by kernel_rfl) (by kernel_rfl) ?_
        repeat (go_big_quiet_step (fail))
        refine wpQuiet_nil ?_
        rintro _ ⟨m', rfl⟩
        go_wp2
        go_ret2
        exact HE.out _ (HB.out.trans (m'.bel.mono HB.out.size))
      have t1 : decide ((np : Int) < x) = false := decide_eq_false a1
      by_cases a2 : t = true ∧ 0 < x
      · obtain ⟨rfl, a2⟩ := a2
        have t2 : decide (0 < x) = true := decide_eq_true a2
        have E := HBad.out (by unfold okB; rw [decide_eq_true a2]; simp)
        have HE := Lib.hid E
        clear a0 a1 a2 E HBad
        go_upto_region 10 with (fail)
        refine wp_region_later (by kernel_rfl) (by kernel_rfl) ?_
        repeat (go_big_quiet_step (fail))
        refine wpQuiet_nil ?_
        rintro _ ⟨m', rfl⟩
        go_wp2
        go_ret2
        exact HE.out _ (HB.out.trans (m'.bel.mono HB.out.size))
      have HO1 : Hid (∀ j, j < k + 1 → okB np (f j) (lv j) = true) := Lib.hid (fun j hj => by
        rcases Nat.lt_or_ge j k with hj2 | hj2
        · exact hO.out j hj2
        · obtain rfl : j = k := by omega
          rw [HX.out.1, HX.out.2]
          unfold okB
          rw [decide_eq_true (show 0 ≤ x by omega), decide_eq_true (show x ≤ np by omega)]
          cases t
          · rfl
          · rw [decide_eq_false (fun h => a2 ⟨rfl, h⟩)]; rfl)
      have hcs : (t = false ∧ decide (0 < x) = true) ∨ (t = false ∧ decide (0 < x) = false) ∨ (t = true ∧ decide (0 < x) = false) := by
        cases t
        · by_cases h : 0 < x
          · exact .inl ⟨rfl, decide_eq_true h⟩
          · exact .inr (.inl ⟨rfl, decide_eq_false h⟩)
        · exact .inr (.inr ⟨rfl, decide_eq_false (fun h => a2 ⟨rfl, h⟩)⟩)
      clear a0 a1 a2 hO HX HBad
      go_upto_region 10 with (fail)
      refine wp_region_later (by kernel_rfl) (by kernel_rfl) ?_
      rcases hcs with ⟨rfl, t2⟩ | ⟨rfl, t2⟩ | ⟨rfl, t2⟩
      all_goals
        repeat (go_big_quiet_step (fail))
        refine wpQuiet_nil ?_
        rintro _ ⟨m', rfl⟩
        have hM1 := hM.out.later m'.bel
        have cl1 := m'.cell cl
        have cf1 := m'.cell cf
        obtain ⟨wq, hwq⟩ : ∃ wq, m'.to = wq := ⟨_, rfl⟩
        rw [hwq] at hM1 cl1 cf1
        have lcl1 := fun m2 : Later wq => m2.cell cl1
        have HM1 := Lib.hid hM1
        clear hM1
        go_wp2_with fail
        rw [hwq]
        refine wp_region_later (by kernel_rfl) (by kernel_rfl) ?_
        repeat (go_big_quiet_step (fail))
        refine wpQuiet_nil ?_
        rintro _ ⟨m2, rfl⟩
        have hM2 := HM1.out.later m2.bel
        have cf2 := m2.cell cf1
        obtain ⟨wt, hwt⟩ : ∃ wt, m2.to = wt := ⟨_, rfl⟩
        rw [hwt] at hM2 cf2 ⊢
        have HR2 := Lib.hid (HH.out.below hM2.bel)
        obtain ⟨-, -, -, r6, -⟩ := HR2.out.rows
        obtain ⟨-, -, ⟨bd, hbd⟩, -⟩ := HR2.out.row hlt
        have b1 : wt.cell? ⟨D, 1, none⟩ = some v1 := hM2.box.cell 1
        obtain ⟨xs, hown⟩ := hM2.s
        have hDw := hM2.box.lt
        have HM2 := Lib.hid hM2
        clear hM2 m2 m' hwt hwq cl1 cf1 lcl1 HM1 cl cf lcl lcf lg1 g1 hM HB HR
        rcases bd with _ | _
        all_goals
          go_wp2_with (at_builtin; refine wpList_append_own_at _ rfl _ _ 24 rfl (D + 1) 3 i0 (.int .i64 0) 1 8 Tryz.underlying24 hi hz0 hz1 hz2 rfl (by decide) _ _ _ rfl (hown.alloc _) ⟨wt.heap.size, 0, none⟩ 1 1 _ rfl ?c0 (cell_one_new _ _ _) ?c2 ?c3 ?c4 ?c5 ?_)
          case c0 => rfl
          case c2 => intro u hu; simp at hu; subst hu; rfl
          case c3 => unfold maxLen; omega
          case c4 => omega
          case c5 => simp; omega
          intro v' w1 hown1 hgrow _ hob
          obtain ⟨a5, c5, rfl⟩ := own_form hown1
          have hbx := HM2.out.boxed _ hgrow (.inl rfl)
          have f1 := hbx.frozen 1
          have b1' : w1.cell? ⟨D, 1, none⟩ = some v1 := hbx.cell 1
          have hM3 := HM2.out.push1 _ ⟨xs ++ [_], by simpa using hown1⟩ hgrow (by simpa using hob)
          clear hown1 hgrow hob hown b1 HM2 hbx hDw hbd r6 HR2
          go_upto_region 21 with (fail)
          generalize (w1.setCell ⟨D, 1, none⟩ (.slice a5 (k + 1) c5)) = w3 at hM3 ⊢
          clear b1' f1
          have b2 : w3.cell? ⟨D, 2, none⟩ = some v2 := hM3.box.cell 2
          obtain ⟨ys, hown⟩ := hM3.l
          have hDw := hM3.box.lt
          have HM3 := Lib.hid hM3
          clear hM3
          go_wp2_with (at_builtin; refine wpList_append_own_at _ rfl _ _ 24 rfl (D + 1) 3 i0 (.int .i64 0) 1 8 Tryz.underlying24 hi hz0 hz1 hz2 rfl (by decide) _ _ _ rfl (hown.alloc _) ⟨w3.heap.size, 0, none⟩ 1 1 _ rfl ?c0 (cell_one_new _ _ _) ?c2 ?c3 ?c4 ?c5 ?_)
          case c0 => rfl
          case c2 => intro u hu; simp at hu; subst hu; rfl
          case c3 => unfold maxLen; omega
          case c4 => omega
          case c5 => simp; omega
          intro v'' w4 hown1 hgrow _ hob
          obtain ⟨a6, c6, rfl⟩ := own_form hown1
          have hbx := HM3.out.boxed _ hgrow (.inr rfl)
          have f2 := hbx.frozen 2
          have b2' : w4.cell? ⟨D, 2, none⟩ = some v2 := hbx.cell 2
          have HM4 := Lib.hid (HM3.out.push2 _ ⟨ys ++ [_], by simpa using hown1⟩ hgrow (by simpa using hob))
          clear hown1 hgrow hob hown b2 HM3 hbx hDw
          go_wp2
          go_roundw
          case rel => exact ⟨k + 1, _, _, by omega, by go_num, HM4, HO1⟩
          case measure => simp [intOf]; omega
    · have kl : ¬ (k : Int) < (nb : Int) := by omega
      obtain rfl : k = nb := by omega
      obtain ⟨q, hqd, hv1, hv2, hRm, hqn⟩ := hM.out.at HH.out
      subst hqd hv1 hv2
      have HRm := Lib.hid hRm
      have HAl := Lib.hid (rmall_any hRm)
      have HQn := Lib.hid hqn
      clear hRm hqn hi hz0 hz1 hz2 HF HL hM t3 t4
      go_wp2_with fail
      refine HAl.out.mono ?_
      rintro e wa ⟨⟨g, cap, l, rfl, hown, hlen, hg⟩, hb⟩
      have HRm2 := Lib.hid (HRm.out.below hb)
      have HB2 := Lib.hid (HB.out.trans (hb.mono HB.out.size))
      have HGr := Lib.hid (fun W (hW : Below wa.heap.size wa W) => rmgreat_any (cap := cap) (hown.below hW hown.lt) hlen hnb)
      have HLs := Lib.hid (fun W (hW : Below wa.heap.size wa W) => rmleast_any (cap := cap) (hown.below hW hown.lt) hlen hnb)
      clear hb hown hlen hg HRm HAl HB
      go_wp2_with fail
      refine (HGr.out _ (Below.refl _ _)).mono ?_
      rintro e w' ⟨⟨x, rfl⟩, rfl⟩
      go_wp2_with fail
      refine (HLs.out _ (Below.refl _ _)).mono ?_
      rintro e w' ⟨⟨y, rfl⟩, rfl⟩
      obtain ⟨r', b', ev, hbk⟩ := HRm2.out.blk
      have c6 : wa.cell? ⟨q.d, 6, none⟩ = some (.bool ev) := hbk.cell 6
      have f6 := hbk.frozen 6
      have HEnd : Hid (∀ t : Bool, RoP w X o k np sz f lv (.returned (.tuple #[.pointer (some ⟨q.d, 0, none⟩), .int .i64 0])) (wa.setCell ⟨q.d, 6, none⟩ (.bool t))) := Lib.hid fun t => ⟨.inr ⟨q, rfl, hO.out, HRm2.out.pute t, HQn.out⟩, HB2.out.setCell (p := ⟨q.d, 6, none⟩) (HQn.out _ (.inl rfl)) _⟩
      clear hbk HGr HLs HRm2
      go_wp2
      go_ret2
      exact HEnd.out _
end Go.Proofs.YtjjggmopkfkpaaaGreat
