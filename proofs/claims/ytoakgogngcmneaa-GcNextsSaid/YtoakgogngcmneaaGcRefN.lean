/-
  What is to be done next with a row of blocks: the document's answer. Nothing of one statement alone stands here.
-/
import Derived.Test.YtoakgogngcmneaaGcRefM
import Derived.Test.YtoakgogngcmneaaGcKnown
namespace Go.Proofs.Ytoakgogngcmneaa
open Go.RowKit Gcm Go.ChangeShapes

set_option maxRecDepth 100000 in
set_option maxHeartbeats 1000000 in
theorem ahead_any (a0 a1 a2 a3 b0 b1 b2 b3 r : Int) (w : World) :
    Calls Try.prog 66 #[.agg #[.int .i64 a0, .int .i64 a1, .int .i64 a2, .int .i64 a3], .agg #[.int .i64 b0, .int .i64 b1, .int .i64 b2, .int .i64 b3], .int .i64 r] w fun e w' => e = .returned (.bool (ahd r ⟨a0, a1, a2, a3⟩ ⟨b0, b1, b2, b3⟩)) ∧ Below w.heap.size w w' := by
  have hbb : Below w.heap.size w ((w.alloc (.cells #[.int .i64 a0, .int .i64 a1, .int .i64 a2, .int .i64 a3] 60)).alloc (.cells #[.int .i64 b0, .int .i64 b1, .int .i64 b2, .int .i64 b3] 60)) := ((Below.refl _ w).alloc (Nat.le_refl _) _).alloc (by simp) _
  have HV := Lib.hid (show ahd r ⟨a0, a1, a2, a3⟩ ⟨b0, b1, b2, b3⟩ = if (r == 3) = true then false else if ((r == 2 || r == 4 || r == 6) && a1 != b1) = true then decide (a1 < b1) else decide (a2 < b2) from rfl)
  cases e3 : r == 3 with
  | true =>
    have e := Lib.hid (HV.out.trans (by simp [e3] : _ = false))
    clear HV
    go_enter Try.func66, Try.ntmps66
    go_wp2
    go_ret
    exact ⟨gbool e.out.symm, hbb⟩
  | false =>
    cases e2 : r == 2 with
    | true =>
      cases en : a1 != b1 with
      | true =>
        have e := Lib.hid (HV.out.trans (by simp [e3, e2, en] : _ = decide (a1 < b1)))
        clear HV
        go_enter Try.func66, Try.ntmps66
        go_wp2
        go_ret
        exact ⟨gbool e.out.symm, hbb⟩
      | false =>
        have e := Lib.hid (HV.out.trans (by simp [e3, e2, en] : _ = decide (a2 < b2)))
        clear HV
        go_enter Try.func66, Try.ntmps66
        go_wp2
        go_ret
        exact ⟨gbool e.out.symm, hbb⟩
    | false =>
      cases e4 : r == 4 with
      | true =>
        cases en : a1 != b1 with
        | true =>
          have e := Lib.hid (HV.out.trans (by simp [e3, e2, e4, en] : _ = decide (a1 < b1)))
          clear HV
          go_enter Try.func66, Try.ntmps66
          go_wp2
          go_ret
          exact ⟨gbool e.out.symm, hbb⟩
        | false =>
          have e := Lib.hid (HV.out.trans (by simp [e3, e2, e4, en] : _ = decide (a2 < b2)))
          clear HV
          go_enter Try.func66, Try.ntmps66
          go_wp2
          go_ret
          exact ⟨gbool e.out.symm, hbb⟩
      | false =>
        cases e6 : r == 6 with
        | true =>
          cases en : a1 != b1 with
          | true =>
            have e := Lib.hid (HV.out.trans (by simp [e3, e2, e4, e6, en] : _ = decide (a1 < b1)))
            clear HV
            go_enter Try.func66, Try.ntmps66
            go_wp2
            go_ret
            exact ⟨gbool e.out.symm, hbb⟩
          | false =>
            have e := Lib.hid (HV.out.trans (by simp [e3, e2, e4, e6, en] : _ = decide (a2 < b2)))
            clear HV
            go_enter Try.func66, Try.ntmps66
            go_wp2
            go_ret
            exact ⟨gbool e.out.symm, hbb⟩
        | false =>
          have e := Lib.hid (HV.out.trans (by simp [e3, e2, e4, e6] : _ = decide (a2 < b2)))
          clear HV
          go_enter Try.func66, Try.ntmps66
          go_wp2
          go_ret
          exact ⟨gbool e.out.symm, hbb⟩

set_option maxRecDepth 100000 in
set_option maxHeartbeats 1000000 in
theorem rank_any (l : List Bk) (a : Option Addr) (cap n : Nat) (p : Int) (k : Nat) (room : Bool) (w : World) (hr : Rg w a l) (hl : l.length = n) (hRt : Rt l p) (hk : k < n) :
    Calls Try.prog 65 #[.slice a n cap, .int .i64 p, .int .i64 k, .bool room] w fun e w' => e = .returned (.int .i64 (rnk p (least l) room l[k]!)) ∧ Below w.heap.size w w' := by
  have hkl : k < l.length := by omega
  have HMa := Lib.hid (fun W (hb : Below w.heap.size w W) => refMay_any l a cap n p k W (hr.below hb) hl)
  rw [mayAt_in hRt hkl] at HMa
  have HLe := Lib.hid (fun W (hb : Below w.heap.size w W) => refLeast_any l a cap n W (hr.below hb) hl)
  rcases hr.2.2 with rfl | ⟨b, off, rfl, hc⟩
  · simp at hkl
  obtain ⟨c0, c1, c2, c3⟩ := hc k hkl
  generalize l[k]! = y at HMa c0 c1 c2 c3 ⊢
  generalize least l = m at HMa HLe ⊢
  obtain ⟨st, lv, wr, nx⟩ := y
  dsimp only at c0 c1 c2 c3
  have HV := Lib.hid (show rnk p m room ⟨st, lv, wr, nx⟩ = if ((st == 3) && may m ⟨st, lv, wr, nx⟩) = true then 1 else if (st == 2 && room && may m ⟨st, lv, wr, nx⟩ && decide (lv < p)) = true then 2 else if ((wr == m) && (st == 0 || (st == 1 && nx == 0))) = true then 3
    else if (st == 2 && room && (wr == m)) = true then 4 else if (st == 3) = true then 5 else if (st == 2 && room && decide (lv < p)) = true then 6 else 0 from rfl)
  generalize may m ⟨st, lv, wr, nx⟩ = M at HMa HV
  obtain ⟨W0, hW0⟩ : ∃ W, w.alloc (.cells #[.int .i64 st, .int .i64 lv, .int .i64 wr, .int .i64 nx] 60) = W := ⟨_, rfl⟩
  have HW0 := Lib.hid hW0
  have BB : Hid (Below w.heap.size w W0) := Lib.hid (by rw [← hW0]; exact (Below.refl _ w).alloc (Nat.le_refl _) _)
  have BK : Hid (Blk W0 w.heap.size 60 #[.int .i64 st, .int .i64 lv, .int .i64 wr, .int .i64 nx]) := Lib.hid (by rw [← hW0]; exact Blk.new w _ _)
  have HM := Lib.hid (fun mm : Later W0 => later_same (HLe.out mm.to (BB.out.trans (mm.bel.mono BB.out.size))))
  have hkn : (k : Int) < (n : Int) := by omega
  have hk0 : (0 : Int) ≤ (k : Int) := by omega
  clear hr hl hRt hkl hc hW0 HLe
  go_enter Try.func65, Try.ntmps65
  go_wp2_with fail
  rw [HW0.out]
  have f2 := fun mm : Later W0 => mm.cell ((BK.out.cell 2).trans rfl)
  simp at f2
  refine wp_region_later (by kernel_rfl) (by kernel_rfl) ?_
  repeat (go_big_quiet_step (with_reducible first | exact HM.out _))
  refine wpQuiet_nil ?_
  rintro _ ⟨mm, rfl⟩
  have HB := Lib.hid (BB.out.trans (mm.bel.mono BB.out.size))
  have KB := Lib.hid (BK.out.below mm.bel BK.out.lt)
  have k0 := KB.out.cell 0
  have k1 := KB.out.cell 1
  have k3 := KB.out.cell 3
  simp at k0 k1 k3
  clear f2 HM HW0 c0 c1 c2 c3 BK BB
  by_cases h3 : st = 3
  · subst h3
    cases M with
    | true =>
      have e := Lib.hid (Eq.trans (c := (1 : Int)) HV.out (by simp []))
      clear HV
      go_wp2_with fail
      refine (HMa.out _ HB.out).mono ?_
      rintro e' w2 ⟨rfl, hb2⟩
      have j0 := (hb2.cell (block_lt_of_cell k0)).trans k0
      have j1 := (hb2.cell (block_lt_of_cell k1)).trans k1
      have j3 := (hb2.cell (block_lt_of_cell k3)).trans k3
      have HB2 := Lib.hid (HB.out.trans (hb2.mono HB.out.size))
      clear hb2 k0 k1 k3
      go_wp2
      go_ret
      exact ⟨gint e.out.symm, HB2.out⟩
    | false =>
      cases dw : wr == m with
      | true =>
        have e := Lib.hid (Eq.trans (c := (5 : Int)) HV.out (by simp [dw]))
        clear HV
        go_wp2_with fail
        refine (HMa.out _ HB.out).mono ?_
        rintro e' w2 ⟨rfl, hb2⟩
        have j0 := (hb2.cell (block_lt_of_cell k0)).trans k0
        have j1 := (hb2.cell (block_lt_of_cell k1)).trans k1
        have j3 := (hb2.cell (block_lt_of_cell k3)).trans k3
        have HB2 := Lib.hid (HB.out.trans (hb2.mono HB.out.size))
        clear hb2 k0 k1 k3
        go_wp2
        go_ret
        exact ⟨gint e.out.symm, HB2.out⟩
      | false =>
        have e := Lib.hid (Eq.trans (c := (5 : Int)) HV.out (by simp [dw]))
        clear HV
        go_wp2_with fail
        refine (HMa.out _ HB.out).mono ?_
        rintro e' w2 ⟨rfl, hb2⟩
        have j0 := (hb2.cell (block_lt_of_cell k0)).trans k0
        have j1 := (hb2.cell (block_lt_of_cell k1)).trans k1
        have j3 := (hb2.cell (block_lt_of_cell k3)).trans k3
        have HB2 := Lib.hid (HB.out.trans (hb2.mono HB.out.size))
        clear hb2 k0 k1 k3
        go_wp2
        go_ret
        exact ⟨gint e.out.symm, HB2.out⟩
  have s3 : (st == 3) = false := by simp [h3]
  by_cases h2 : st = 2
  · subst h2
    clear h3
    cases room with
    | false =>
      cases dw : wr == m with
      | true =>
        have e := Lib.hid (Eq.trans (c := (0 : Int)) HV.out (by simp [dw]))
        clear HV
        go_wp2
        go_ret
        exact ⟨gint e.out.symm, HB.out⟩
      | false =>
        have e := Lib.hid (Eq.trans (c := (0 : Int)) HV.out (by simp [dw]))
        clear HV
        go_wp2
        go_ret
        exact ⟨gint e.out.symm, HB.out⟩
    | true =>
      cases dl : decide (lv < p) with
      | true =>
        cases M with
        | true =>
          have e := Lib.hid (Eq.trans (c := (2 : Int)) HV.out (by simp [dl]))
          clear HV
          go_wp2_with fail
          refine (HMa.out _ HB.out).mono ?_
          rintro e' w2 ⟨rfl, hb2⟩
          have j0 := (hb2.cell (block_lt_of_cell k0)).trans k0
          have j1 := (hb2.cell (block_lt_of_cell k1)).trans k1
          have j3 := (hb2.cell (block_lt_of_cell k3)).trans k3
          have HB2 := Lib.hid (HB.out.trans (hb2.mono HB.out.size))
          clear hb2 k0 k1 k3
          go_wp2
          go_ret
          exact ⟨gint e.out.symm, HB2.out⟩
        | false =>
          cases dw : wr == m with
          | true =>
            have e := Lib.hid (Eq.trans (c := (4 : Int)) HV.out (by simp [dl, dw]))
            clear HV
            go_wp2_with fail
            refine (HMa.out _ HB.out).mono ?_
            rintro e' w2 ⟨rfl, hb2⟩
            have j0 := (hb2.cell (block_lt_of_cell k0)).trans k0
            have j1 := (hb2.cell (block_lt_of_cell k1)).trans k1
            have j3 := (hb2.cell (block_lt_of_cell k3)).trans k3
            have HB2 := Lib.hid (HB.out.trans (hb2.mono HB.out.size))
            clear hb2 k0 k1 k3
            go_wp2
            go_ret
            exact ⟨gint e.out.symm, HB2.out⟩
          | false =>
            have e := Lib.hid (Eq.trans (c := (6 : Int)) HV.out (by simp [dl, dw]))
            clear HV
            go_wp2_with fail
            refine (HMa.out _ HB.out).mono ?_
            rintro e' w2 ⟨rfl, hb2⟩
            have j0 := (hb2.cell (block_lt_of_cell k0)).trans k0
            have j1 := (hb2.cell (block_lt_of_cell k1)).trans k1
            have j3 := (hb2.cell (block_lt_of_cell k3)).trans k3
            have HB2 := Lib.hid (HB.out.trans (hb2.mono HB.out.size))
            clear hb2 k0 k1 k3
            go_wp2
            go_ret
            exact ⟨gint e.out.symm, HB2.out⟩
      | false =>
        cases dw : wr == m with
        | true =>
          cases M with
          | true =>
            have e := Lib.hid (Eq.trans (c := (4 : Int)) HV.out (by simp [dl, dw]))
            clear HV
            go_wp2_with fail
            refine (HMa.out _ HB.out).mono ?_
            rintro e' w2 ⟨rfl, hb2⟩
            have j0 := (hb2.cell (block_lt_of_cell k0)).trans k0
            have j1 := (hb2.cell (block_lt_of_cell k1)).trans k1
            have j3 := (hb2.cell (block_lt_of_cell k3)).trans k3
            have HB2 := Lib.hid (HB.out.trans (hb2.mono HB.out.size))
            clear hb2 k0 k1 k3
            go_wp2
            go_ret
            exact ⟨gint e.out.symm, HB2.out⟩
          | false =>
            have e := Lib.hid (Eq.trans (c := (4 : Int)) HV.out (by simp [dl, dw]))
            clear HV
            go_wp2_with fail
            refine (HMa.out _ HB.out).mono ?_
            rintro e' w2 ⟨rfl, hb2⟩
            have j0 := (hb2.cell (block_lt_of_cell k0)).trans k0
            have j1 := (hb2.cell (block_lt_of_cell k1)).trans k1
            have j3 := (hb2.cell (block_lt_of_cell k3)).trans k3
            have HB2 := Lib.hid (HB.out.trans (hb2.mono HB.out.size))
            clear hb2 k0 k1 k3
            go_wp2
            go_ret
            exact ⟨gint e.out.symm, HB2.out⟩
        | false =>
          cases M with
          | true =>
            have e := Lib.hid (Eq.trans (c := (0 : Int)) HV.out (by simp [dl, dw]))
            clear HV
            go_wp2_with fail
            refine (HMa.out _ HB.out).mono ?_
            rintro e' w2 ⟨rfl, hb2⟩
            have j0 := (hb2.cell (block_lt_of_cell k0)).trans k0
            have j1 := (hb2.cell (block_lt_of_cell k1)).trans k1
            have j3 := (hb2.cell (block_lt_of_cell k3)).trans k3
            have HB2 := Lib.hid (HB.out.trans (hb2.mono HB.out.size))
            clear hb2 k0 k1 k3
            go_wp2
            go_ret
            exact ⟨gint e.out.symm, HB2.out⟩
          | false =>
            have e := Lib.hid (Eq.trans (c := (0 : Int)) HV.out (by simp [dl, dw]))
            clear HV
            go_wp2_with fail
            refine (HMa.out _ HB.out).mono ?_
            rintro e' w2 ⟨rfl, hb2⟩
            have j0 := (hb2.cell (block_lt_of_cell k0)).trans k0
            have j1 := (hb2.cell (block_lt_of_cell k1)).trans k1
            have j3 := (hb2.cell (block_lt_of_cell k3)).trans k3
            have HB2 := Lib.hid (HB.out.trans (hb2.mono HB.out.size))
            clear hb2 k0 k1 k3
            go_wp2
            go_ret
            exact ⟨gint e.out.symm, HB2.out⟩
  have s2 : (st == 2) = false := by simp [h2]
  clear h3 h2
  cases dw : wr == m with
  | false =>
    have e := Lib.hid (Eq.trans (c := (0 : Int)) HV.out (by simp [s3, s2, dw]))
    clear HV
    go_wp2
    go_ret
    exact ⟨gint e.out.symm, HB.out⟩
  | true =>
    cases s0 : st == 0 with
    | true =>
      have e := Lib.hid (Eq.trans (c := (3 : Int)) HV.out (by simp [s3, s2, dw, s0]))
      clear HV
      go_wp2
      go_ret
      exact ⟨gint e.out.symm, HB.out⟩
    | false =>
      cases s1 : st == 1 with
      | false =>
        have e := Lib.hid (Eq.trans (c := (0 : Int)) HV.out (by simp [s3, s2, dw, s0, s1]))
        clear HV
        go_wp2
        go_ret
        exact ⟨gint e.out.symm, HB.out⟩
      | true =>
        cases sn : nx == 0 with
        | true =>
          have e := Lib.hid (Eq.trans (c := (3 : Int)) HV.out (by simp [s3, s2, dw, s0, s1, sn]))
          clear HV
          go_wp2
          go_ret
          exact ⟨gint e.out.symm, HB.out⟩
        | false =>
          have e := Lib.hid (Eq.trans (c := (0 : Int)) HV.out (by simp [s3, s2, dw, s0, s1, sn]))
          clear HV
          go_wp2
          go_ret
          exact ⟨gint e.out.symm, HB.out⟩
end Go.Proofs.Ytoakgogngcmneaa
