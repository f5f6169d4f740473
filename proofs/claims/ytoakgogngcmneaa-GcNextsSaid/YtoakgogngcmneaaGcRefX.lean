/-
  What is to be done next with a row of blocks: the document's call Next, and the statement on it. Nothing else stands here.
-/
import Derived.Test.YtoakgogngcmneaaGcRefN
namespace Gcm
theorem seek_hit {p m : Int} {room : Bool} {l : List Bk} {f r n : Nat} (hn : l.length = n) (h : 0 ≤ best (fun b => rnk p m room b == (r : Int)) (ahd r) l n) :
    seek p m room l (f + 1) r = (kinds[r]!, best (fun b => rnk p m room b == (r : Int)) (ahd r) l n) := by
  subst hn
  simp only [seek]
  rw [if_pos h]
theorem seek_miss {p m : Int} {room : Bool} {l : List Bk} {f r n : Nat} (hn : l.length = n) (h : ¬ 0 ≤ best (fun b => rnk p m room b == (r : Int)) (ahd r) l n) :
    seek p m room l (f + 1) r = seek p m room l f (r + 1) := by
  subst hn
  simp only [seek]
  rw [if_neg h]
end Gcm
namespace Go.Proofs.Ytoakgogngcmneaa
open Go.RowKit Gcm Go.ChangeShapes

theorem kinds_cell {w : World} {g : Nat} (h : Blk w g 3 #[.int .i64 0, .int .i64 1, .int .i64 2, .int .i64 3, .int .i64 2, .int .i64 4, .int .i64 4]) (r : Nat) (hr : r ≤ 6) : w.cell? ⟨g, r, none⟩ = some (.int .i64 kinds[r]!) := by
  rw [h.cell r]
  match r, hr with
  | 0, _ => rfl
  | 1, _ => rfl
  | 2, _ => rfl
  | 3, _ => rfl
  | 4, _ => rfl
  | 5, _ => rfl
  | 6, _ => rfl
  | r + 7, h => omega

set_option maxRecDepth 100000 in
set_option maxHeartbeats 2000000 in
theorem refNext_any (l : List Bk) (a : Option Addr) (cap n : Nat) (p : Int) (room : Bool) (w : World) (hr : Rg w a l) (hl : l.length = n) :
    Calls Try.prog 44 #[.slice a n cap, .int .i64 p, .bool room] w fun e w' => e = .returned (av (nxt l p room)) ∧ Below w.heap.size w w' := by
  obtain ⟨W0, hW0⟩ : ∃ W, w.alloc (.cells #[.int .i64 0, .int .i64 0] 47) = W := ⟨_, rfl⟩
  have HW0 := Lib.hid hW0
  have B0 : Hid (Blk W0 w.heap.size 47 #[.int .i64 0, .int .i64 0]) := Lib.hid (by rw [← hW0]; exact Blk.new w _ _)
  have BB : Hid (Below w.heap.size w W0) := Lib.hid (by rw [← hW0]; exact (Below.refl _ w).alloc (Nat.le_refl _) _)
  have HR := Lib.hid (refRight_any l a cap n p W0 (hr.below BB.out) hl)
  clear hW0
  by_cases hRt : Rt l p
  · rw [decide_eq_true hRt] at HR
    have HX := Lib.hid (nxt_seek (room := room) hRt)
    have HRk := Lib.hid (fun W (hb : Below w.heap.size w W) k hk => rank_any l a cap n p k room W (hr.below hb) hl hRt hk)
    have HRg := Lib.hid hr
    have HL := Lib.hid hl
    have hn0 := hr.2.1
    unfold maxLen at hn0
    have n1 : n ≤ 9223372036854775807 := by omega
    generalize least l = m at HX HRk
    clear hRt hr hl hn0
    go_enter Try.func44, Try.ntmps44
    go_wp2_with fail
    rw [HW0.out]
    refine HR.out.mono ?_
    rintro e w1 ⟨rfl, hb1⟩
    have BB1 := Lib.hid (BB.out.trans (hb1.mono BB.out.size))
    have B01 := Lib.hid (B0.out.below hb1 B0.out.lt)
    have BK := Lib.hid (Blk.new w1 3 #[.int .i64 0, .int .i64 1, .int .i64 2, .int .i64 3, .int .i64 2, .int .i64 4, .int .i64 4])
    have B02 := Lib.hid (B01.out.alloc (.cells #[.int .i64 0, .int .i64 1, .int .i64 2, .int .i64 3, .int .i64 2, .int .i64 4, .int .i64 4] 3))
    have BB2 := Lib.hid (BB1.out.alloc BB1.out.size (.cells #[.int .i64 0, .int .i64 1, .int .i64 2, .int .i64 3, .int .i64 2, .int .i64 4, .int .i64 4] 3))
    have hK : w.heap.size ≤ w1.heap.size := BB1.out.size
    clear hb1 B0 HR HW0 B01 BB1
    go_wp2_with fail
    go_loopw [8] (fun s8 wr => ∃ r : Nat, 1 ≤ r ∧ r ≤ 7 ∧ s8 = .int .i64 r ∧ Hid (Blk wr w.heap.size 47 #[.int .i64 0, .int .i64 0]) ∧ Hid (Blk wr w1.heap.size 3 #[.int .i64 0, .int .i64 1, .int .i64 2, .int .i64 3, .int .i64 2, .int .i64 4, .int .i64 4]) ∧ Hid (Below w.heap.size w wr) ∧ Hid (seek p m room l (7 - r) r = seek p m room l 6 1)) (fun s8 _ => 7 - (intOf s8).toNat)
    case atStart => exact ⟨1, by omega, by omega, rfl, B02, BK, BB2, Lib.hid rfl⟩
    case round =>
      obtain ⟨r, hr1, hr7, rfl, D0, DK, DB, HS⟩ := hrel
      by_cases hlt : r ≤ 6
      · have t6 : decide ((r : Int) ≤ 6) = true := decide_eq_true (by omega)
        go_wp2_with fail
        go_loopw [9, 10] (fun f i wi => ∃ k : Nat, k ≤ n ∧ i = .int .i64 k ∧ Hid (Blk wi w.heap.size 47 #[.int .i64 0, .int .i64 0]) ∧ Hid (Blk wi w1.heap.size 3 #[.int .i64 0, .int .i64 1, .int .i64 2, .int .i64 3, .int .i64 2, .int .i64 4, .int .i64 4]) ∧ Hid (Below w.heap.size w wi) ∧ f = .int .i64 (best (fun b => rnk p m room b == (r : Int)) (ahd r) l k)) (fun _ i _ => n - (intOf i).toNat)
        case atStart => exact ⟨0, by omega, rfl, D0, DK, DB, rfl⟩
        case round =>
          obtain ⟨k, hk, rfl, E0, EK, EB, rfl⟩ := hrel
          by_cases hkn : k < n
          · have hkl : k < l.length := by rw [HL.out]; exact hkn
            have hRK := fun mm : Later wr => later_below (HRk.out mm.to (EB.out.trans (mm.bel.mono EB.out.size)) k hkn)
            obtain ⟨y, hy⟩ : ∃ y, l[k]! = y := ⟨_, rfl⟩
            rw [hy] at hRK
            have HY := Lib.hid hy
            obtain ⟨fi, hfi⟩ : ∃ fi, (fun b => rnk p m room b == (r : Int)) = fi := ⟨_, rfl⟩
            have HFY := Lib.hid (show fi y = (rnk p m room y == (r : Int)) by rw [← hfi])
            obtain ⟨f, hf⟩ : ∃ f, best (fun b => rnk p m room b == (r : Int)) (ahd r) l k = f := ⟨_, rfl⟩
            have hbt := best_lt (fun b => rnk p m room b == (r : Int)) (ahd r) l k
            have hbg := best_ge (fun b => rnk p m room b == (r : Int)) (ahd r) l k
            rw [hf] at hbt hbg ⊢
            rw [hfi] at hf
            have HF := Lib.hid hf
            have HFI := Lib.hid hfi
            generalize rnk p m room y = rk at hRK HFY
            have HS1 := Lib.hid hRK
            clear hf hfi hy hRK
            go_wp2_with fail
            cases hq : rk == (r : Int) with
            | false =>
              have HN := Lib.hid (best_no (bt := ahd r) HY.out (HFY.out.trans hq))
              refine wp_region_later (by kernel_rfl) (by kernel_rfl) ?_
              repeat (go_big_quiet_step (with_reducible first | exact HS1.out _))
              refine wpQuiet_nil ?_
              rintro _ ⟨mm, rfl⟩
              go_wp2
              go_roundw
              case rel => exact ⟨k + 1, by omega, by go_num, Lib.hid (E0.out.below mm.bel E0.out.lt), Lib.hid (EK.out.below mm.bel EK.out.lt), Lib.hid (EB.out.trans (mm.bel.mono EB.out.size)), by rw [HFI.out, HN.out, HF.out]⟩
              case measure => simp [intOf]; omega
            | true =>
              have HQ := Lib.hid (HFY.out.trans hq)
              by_cases h0 : f < 0
              · have HN := Lib.hid (best_yes (bt := ahd r) HY.out HQ.out (by rw [HF.out]; exact h0))
                have t0 : decide (f < 0) = true := decide_eq_true h0
                clear hbg hbt
                refine wp_region_later (by kernel_rfl) (by kernel_rfl) ?_
                repeat (go_big_quiet_step (with_reducible first | exact HS1.out _))
                refine wpQuiet_nil ?_
                rintro _ ⟨mm, rfl⟩
                go_wp2
                go_roundw
                case rel => exact ⟨k + 1, by omega, by go_num, Lib.hid (E0.out.below mm.bel E0.out.lt), Lib.hid (EK.out.below mm.bel EK.out.lt), Lib.hid (EB.out.trans (mm.bel.mono EB.out.size)), by rw [HFI.out, HN.out]⟩
                case measure => simp [intOf]; omega
              · obtain ⟨q, rfl⟩ : ∃ q : Nat, f = q := ⟨f.toNat, by omega⟩
                have hqk : q < k := by omega
                have hql : q < l.length := by rw [HL.out]; omega
                obtain ⟨x, hx⟩ : ∃ x, l[q]! = x := ⟨_, rfl⟩
                rcases HRg.out.2.2 with rfl | ⟨b, off, rfl, hc⟩
                · simp at hkl
                obtain ⟨g0, g1, g2, g3⟩ := at_below (hc q hql) EB.out
                obtain ⟨c0, c1, c2, c3⟩ := at_below (hc k hkl) EB.out
                have hyk := HY.out
                rw [hx] at g0 g1 g2 g3
                rw [hyk] at c0 c1 c2 c3
                have HN := Lib.hid (best_bt (bt := ahd r) HY.out HQ.out HF.out hx)
                obtain ⟨st2, lv2, wr2, nx2⟩ := x
                obtain ⟨st, lv, wr', nx⟩ := y
                have HT := Lib.hid (fun mm : Later wr => later_below (ahead_any st lv wr' nx st2 lv2 wr2 nx2 r mm.to))
                have e0 := fun mm : Later wr => mm.cell c0
                have e1 := fun mm : Later wr => mm.cell c1
                have e2 := fun mm : Later wr => mm.cell c2
                have e3 := fun mm : Later wr => mm.cell c3
                have f0 := fun mm : Later wr => mm.cell g0
                have f1 := fun mm : Later wr => mm.cell g1
                have f2 := fun mm : Later wr => mm.cell g2
                have f3 := fun mm : Later wr => mm.cell g3
                have t0 : decide ((q : Int) < 0) = false := decide_eq_false h0
                have hqn : q < n := by omega
                clear hx g0 g1 g2 g3 c0 c1 c2 c3 hbg hbt h0 hc hyk
                cases hb2 : ahd r ⟨st, lv, wr', nx⟩ ⟨st2, lv2, wr2, nx2⟩ with
                | true =>
                  rw [hb2] at HT HN
                  clear hb2
                  refine wp_region_later (by kernel_rfl) (by kernel_rfl) ?_
                  repeat (go_big_quiet_step (with_reducible first | exact HS1.out _ | exact HT.out _))
                  refine wpQuiet_nil ?_
                  rintro _ ⟨mm, rfl⟩
                  go_wp2
                  go_roundw
                  case rel => exact ⟨k + 1, by omega, by go_num, Lib.hid (E0.out.below mm.bel E0.out.lt), Lib.hid (EK.out.below mm.bel EK.out.lt), Lib.hid (EB.out.trans (mm.bel.mono EB.out.size)), by rw [HFI.out, HN.out]; rfl⟩
                  case measure => simp [intOf]; omega
                | false =>
                  rw [hb2] at HT HN
                  clear hb2
                  refine wp_region_later (by kernel_rfl) (by kernel_rfl) ?_
                  repeat (go_big_quiet_step (with_reducible first | exact HS1.out _ | exact HT.out _))
                  refine wpQuiet_nil ?_
                  rintro _ ⟨mm, rfl⟩
                  go_wp2
                  go_roundw
                  case rel => exact ⟨k + 1, by omega, by go_num, Lib.hid (E0.out.below mm.bel E0.out.lt), Lib.hid (EK.out.below mm.bel EK.out.lt), Lib.hid (EB.out.trans (mm.bel.mono EB.out.size)), by rw [HFI.out, HN.out]; rfl⟩
                  case measure => simp [intOf]; omega
          · have hkn' : k = n := by omega
            subst hkn'
            have h71 : 7 - r = (6 - r) + 1 := by omega
            have hs := HS.out
            rw [h71] at hs
            by_cases h0 : 0 ≤ best (fun b => rnk p m room b == (r : Int)) (ahd r) l k
            · have HX2 := Lib.hid (HX.out.trans (hs.symm.trans (seek_hit HL.out h0)))
              have cK := kinds_cell EK.out r hlt
              generalize best (fun b => rnk p m room b == (r : Int)) (ahd r) l k = q at h0 HX2
              generalize kinds[r]! = kd at cK HX2
              have t0 : decide (0 ≤ q) = true := decide_eq_true h0
              have c0 := E0.out.cell 0
              have c1 := E0.out.cell 1
              have g0 := E0.out.frozen 0
              have g1 := E0.out.frozen 1
              simp at c0 c1
              have X := ov2_blk (a := kd) (b := q) E0.out
              have HB := Lib.hid (ov2_below (a := kd) (b := q) EB.out (Nat.le_refl _))
              have x0 := X.cell 0
              have x1 := X.cell 1
              simp at x0 x1
              unfold ov2 at x0 x1
              clear X hs h0
              go_wp2
              exact bodyPost_ret (v := av (kd, q)) (by simp [av, results, Try.results44, go_sem, x0, x1]) rfl ⟨by rw [HX2.out], HB.out⟩
            · have HS2 := Lib.hid ((seek_miss HL.out h0).symm.trans hs)
              generalize best (fun b => rnk p m room b == (r : Int)) (ahd r) l k = q at h0
              have t0 : decide (0 ≤ q) = false := decide_eq_false h0
              clear hs h0
              go_wp2
              go_roundw
              case rel => exact ⟨r + 1, by omega, by omega, by go_num, E0, EK, EB, Lib.hid (by rw [show 7 - (r + 1) = 6 - r by omega]; exact HS2.out)⟩
              case measure => simp [intOf]; omega
      · have h7 : r = 7 := by omega
        subst h7
        have HX2 := Lib.hid (HX.out.trans (HS.out.symm.trans (rfl : _ = ((0 : Int), (-1 : Int)))))
        have c0 := D0.out.cell 0
        have c1 := D0.out.cell 1
        have g0 := D0.out.frozen 0
        have g1 := D0.out.frozen 1
        simp at c0 c1
        have X := ov2_blk (a := 0) (b := -1) D0.out
        have HB := Lib.hid (ov2_below (a := 0) (b := -1) DB.out (Nat.le_refl _))
        have x0 := X.cell 0
        have x1 := X.cell 1
        simp at x0 x1
        unfold ov2 at x0 x1
        clear X
        go_wp2
        exact bodyPost_ret (v := av (0, -1)) (by simp [av, results, Try.results44, go_sem, x0, x1]) rfl ⟨by rw [HX2.out], HB.out⟩
  · rw [decide_eq_false hRt] at HR
    have HX := Lib.hid (nxt_no (room := room) hRt)
    clear hRt hr hl
    go_enter Try.func44, Try.ntmps44
    go_wp2_with fail
    rw [HW0.out]
    refine HR.out.mono ?_
    rintro e w1 ⟨rfl, hb1⟩
    have B01 := Lib.hid (B0.out.below hb1 B0.out.lt)
    have c0 := B01.out.cell 0
    have c1 := B01.out.cell 1
    have g0 := B01.out.frozen 0
    have g1 := B01.out.frozen 1
    simp at c0 c1
    have X := ov2_blk (a := 0) (b := -1) B01.out
    have HB := Lib.hid (ov2_below (a := 0) (b := -1) (BB.out.trans (hb1.mono BB.out.size)) (Nat.le_refl _))
    have x0 := X.cell 0
    have x1 := X.cell 1
    simp at x0 x1
    unfold ov2 at x0 x1
    clear hb1 X
    go_wp2
    exact bodyPost_ret (v := av (0, -1)) (by simp [av, results, Try.results44, go_sem, x0, x1]) rfl ⟨by rw [HX.out], HB.out⟩
end Go.Proofs.Ytoakgogngcmneaa
