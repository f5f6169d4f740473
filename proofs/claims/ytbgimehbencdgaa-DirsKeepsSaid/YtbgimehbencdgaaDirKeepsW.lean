/-
  The statement that what was added, removed and turned is right, and all else as it was.
-/
import Derived.Test.YtbgimehbencdgaaDirUndoW
namespace Go.Proofs.Ytbgimehbencdgaa
open Go.RowKit Crcm Tagm Dirm Go.ChangeShapes

theorem str_nb {x y : ByteArray} (h : x = y) : (x.toList != y.toList) = false := by unfold bne; rw [str_eq h]; rfl
theorem str_nn {x y : ByteArray} (h : x ≠ y) : (x.toList != y.toList) = true := by unfold bne; rw [str_ne h]; rfl
theorem keeps1 {l : List Int} {i : Int} {s : ByteArray} (h : adE l i s = 0) : ck (adL l i s) = 0 ∧ (fd (adL l i s) s).2 = i ∧ (∀ o, o ≠ s → (fd (adL l i s) o).2 = (fd l o).2) ∧ (adL l i s).length ≤ l.length + 16 := by
  obtain ⟨h1, h2, h3⟩ := ad_yes h
  obtain ⟨g1, g2, g3⟩ := add_right (rt_of_ck h1) h2 h3
  have e : adL l i s = adB l (sb i s) := by unfold adL; rw [if_pos h]
  have := (undo_all h).2.2
  rw [e] at this ⊢
  exact ⟨g1.ckS, by rw [g2], fun o ho => by rw [g3 o ho], this⟩
theorem keeps2 {l : List Int} {s : ByteArray} (h : wkE l s = 0) : ck (rmL l s) = 0 ∧ (fd (rmL l s) s).1 = -1 ∧ (∀ o, o ≠ s → (fd (rmL l s) o).2 = (fd l o).2) ∧ (rmL l s).length ≤ l.length := by
  obtain ⟨h1, h2, k, h3, h4, h5, h6, h7⟩ := wk_yes h
  obtain ⟨g1, g2, g3⟩ := remove_right h2 h5 h6 h7
  have e : rmL l s = rmB l k := by unfold rmL; rw [if_pos h, h3]; rfl
  have := rmB_len h2 h5
  rw [e]
  exact ⟨g1.ckS, by rw [g2], fun o ho => by rw [g3 o ho], by omega⟩
theorem tu_yes {l : List Int} {s : ByteArray} {i : Int} (h : tuE l s i = 0) : wkE l s = 0 ∧ wE i s = 0 := by
  unfold tuE at h
  split at h
  · rename_i h1; exact ⟨h1, h⟩
  · rename_i h1; exact absurd h h1
theorem keeps3 {l : List Int} {s : ByteArray} {i : Int} (h : tuE l s i = 0) : ck (tuL l s i) = 0 ∧ (fd (tuL l s i) s).2 = i ∧ (∀ o, o ≠ s → (fd (tuL l s i) o).2 = (fd l o).2) ∧ (tuL l s i).length = l.length := by
  obtain ⟨h0, hw⟩ := tu_yes h
  obtain ⟨h1, h2, k, h3, h4, h5, h6, h7⟩ := wk_yes h0
  obtain ⟨g1, g2, g3⟩ := turn_right h2 h5 h6 h7 hw
  have e : tuL l s i = pw l k (sb i s) := by unfold tuL; rw [if_pos h, h3]; rfl
  have := pw_len (x := sb i s) h2.len h5 (sb_length (w_yes hw).2.1.2)
  rw [e]
  exact ⟨g1.ckS, by rw [g2], fun o ho => by rw [g3 o ho], by have := h2.len; omega⟩

set_option maxRecDepth 100000 in
set_option maxHeartbeats 8000000 in
theorem dirsKeeps_short (i : Int) (s nm o : ByteArray) (a : Option Addr) (n c : Nat) (l : List Int) (w : World) (h5 : s.size ≤ 500) (h6 : nm.size ≤ 500) (h7 : o.size ≤ 500) (hl : l.length = n) (hn : n ≤ 1500) (hr : Rw w a l) (hc : n ≤ c) (c1 : c ≤ 9223372036854775807) :
    Calls Try.prog 6 #[.slice a n c, .agg #[.int .i64 i, .string s], .string nm, .string o] w fun e w' => e = .returned (.bool true) ∧ Below w.heap.size w w' := by
  have HK := Lib.hid (fun w => dknown_any w)
  have HL := Lib.hid (fun w => dlong_any a n c w (by omega))
  rw [decide_eq_false (by omega)] at HL
  have HF0 := Lib.hid (fun W h => find_any l o a n c W h hl hc c1)
  have HA := Lib.hid (fun W h => dadd_any l i s a n c W h hl hc c1 (by omega))
  have HRm := Lib.hid (fun W h => dremove_any l nm a n c W h hl hc c1 (by omega))
  have HTu := Lib.hid (fun W h => dturn_any l nm i a n c W h hl hc c1 (by omega))
  have t1 : decide (500 < (s.size : Int)) = false := by simp; omega
  have t2 : decide (500 < (nm.size : Int)) = false := by simp; omega
  have t3 : decide (500 < (o.size : Int)) = false := by simp; omega
  obtain ⟨W0, hW0⟩ : ∃ W0, w.alloc (.cells #[.int .i64 i, .string s] 23) = W0 := ⟨_, rfl⟩
  have b0 : Below w.heap.size w W0 := by rw [← hW0]; exact (Below.refl _ _).alloc (Nat.le_refl _) _
  have k0 : Blk W0 w.heap.size 23 #[.int .i64 i, .string s] := by rw [← hW0]; exact Blk.new _ _ _
  have HR0 := Lib.hid (hr.below b0)
  have HW0 := Lib.hid hW0
  clear hW0 hr
  have HK0 := Lib.hid k0
  have HB0 := Lib.hid b0
  have v0 : W0.cell? ⟨w.heap.size, 0, none⟩ = some (.int .i64 i) := k0.cell 0
  have v1 : W0.cell? ⟨w.heap.size, 1, none⟩ = some (.string s) := k0.cell 1
  unfold ev at HA
  have K1 := Lib.hid (fun h => keeps1 (l := l) (i := i) (s := s) h)
  have K2 := Lib.hid (fun h => keeps2 (l := l) (s := nm) h)
  have K3 := Lib.hid (fun h => keeps3 (l := l) (i := i) (s := nm) h)
  obtain ⟨p0, hp0⟩ : ∃ p, (fd l o).1 = p := ⟨_, rfl⟩
  obtain ⟨q0, hq0⟩ : ∃ p, (fd l o).2 = p := ⟨_, rfl⟩
  rw [hp0, hq0] at HF0
  obtain ⟨X, hX⟩ : ∃ X, adL l i s = X := ⟨_, rfl⟩
  obtain ⟨Y, hY⟩ : ∃ X, rmL l nm = X := ⟨_, rfl⟩
  obtain ⟨Z, hZ⟩ : ∃ X, tuL l nm i = X := ⟨_, rfl⟩
  obtain ⟨E1, hE1⟩ : ∃ X, adE l i s = X := ⟨_, rfl⟩
  obtain ⟨E2, hE2⟩ : ∃ X, wkE l nm = X := ⟨_, rfl⟩
  obtain ⟨E3, hE3⟩ : ∃ X, tuE l nm i = X := ⟨_, rfl⟩
  rw [hX, hE1] at HA K1
  rw [hY, hE2] at HRm K2
  rw [hZ, hE3] at HTu K3
  rw [hl] at K1 K2 K3
  have HQ0 := Lib.hid hq0
  have HFx := Lib.hid (fun (L : List Int) (t : ByteArray) A c' W (g : Rw W A L) (g2 : L.length ≤ c') (g3 : c' ≤ 9223372036854775807) => find_any L t A L.length c' W g rfl g2 g3)
  have HCx := Lib.hid (fun (L : List Int) A c' W (g : Rw W A L) (g2 : L.length ≤ c') (g3 : c' ≤ 9223372036854775807) (g4 : L.length ≤ 3000) => check_any L A c' L.length W g rfl g2 g3 (by omega))
  clear hp0 hq0 hX hY hZ hE1 hE2 hE3 hl k0 b0
  go_enter Try.func6, Try.ntmps6
  go_wp2_with fail
  rw [HW0.out]
  refine (HL.out _).mono ?_
  rintro e w' ⟨rfl, rfl⟩
  go_wp2_with fail
  refine (HF0.out _ HR0.out).mono ?_
  rintro e w1 ⟨rfl, hb1⟩
  have v2 : w1.cell? ⟨w.heap.size, 0, none⟩ = some (.int .i64 i) := (hb1.cell (block_lt_of_cell v0)).trans v0
  have v3 : w1.cell? ⟨w.heap.size, 1, none⟩ = some (.string s) := (hb1.cell (block_lt_of_cell v1)).trans v1
  clear v0 v1
  go_wp2_with fail
  refine (HA.out _ (HR0.out.below hb1)).mono ?_
  rintro e w2 ⟨⟨A1, d1, rfl, x1, y1, r1⟩, hb2⟩
  have B2 := hb1.trans (hb2.mono hb1.size)
  have v0 : w2.cell? ⟨w.heap.size, 0, none⟩ = some (.int .i64 i) := (hb2.cell (block_lt_of_cell v2)).trans v2
  clear v2 v3 hb1 hb2
  go_wp2_with fail
  refine (HRm.out _ (HR0.out.below B2)).mono ?_
  rintro e w3 ⟨⟨A2, d2, rfl, x2, y2, r2⟩, hb3⟩
  have B3 := B2.trans (hb3.mono B2.size)
  have r12 := r1.below hb3
  have v2 : w3.cell? ⟨w.heap.size, 0, none⟩ = some (.int .i64 i) := (hb3.cell (block_lt_of_cell v0)).trans v0
  clear v0 r1 hb3 B2
  go_wp2_with fail
  refine (HTu.out _ (HR0.out.below B3)).mono ?_
  rintro e w4 ⟨⟨A3, d3, rfl, x3, y3, r3⟩, hb4⟩
  have B4 := B3.trans (hb4.mono B3.size)
  have R1 := Lib.hid (r12.below hb4)
  have R2 := Lib.hid (r2.below hb4)
  have R3 := Lib.hid r3
  have HB := Lib.hid (HB0.out.trans (B4.mono HB0.out.size))
  have hU : Hid (Below w4.heap.size w4 w4) := Lib.hid (Below.refl _ _)
  have HV := Lib.hid (fun W (h : Below w4.heap.size w4 W) => (⟨(((B4.trans (h.mono B4.size)).cell (p := ⟨w.heap.size, 0, none⟩) (HK0.out.lt)).trans (HK0.out.cell 0)), (((B4.trans (h.mono B4.size)).cell (p := ⟨w.heap.size, 1, none⟩) (HK0.out.lt)).trans (HK0.out.cell 1))⟩ : W.cell? ⟨w.heap.size, 0, none⟩ = some (.int .i64 i) ∧ W.cell? ⟨w.heap.size, 1, none⟩ = some (.string s)))
  clear v2 r12 r2 r3 hb4 B3 B4 HA HRm HTu HF0 HL HW0

  by_cases g1 : E1 = 0
  · obtain ⟨m1, m2, m3, m4⟩ := K1.out g1
    subst g1
    obtain ⟨pa, ha⟩ : ∃ p, (fd X s).1 = p := ⟨_, rfl⟩
    obtain ⟨qa, hqa⟩ : ∃ p, (fd X s).2 = p := ⟨_, rfl⟩
    obtain ⟨pb, hb⟩ : ∃ p, (fd X o).1 = p := ⟨_, rfl⟩
    obtain ⟨qb, hqb⟩ : ∃ p, (fd X o).2 = p := ⟨_, rfl⟩
    have F1 := Lib.hid (fun W h => HFx.out X s A1 d1 W h x1 y1)
    have F2 := Lib.hid (fun W h => HFx.out X o A1 d1 W h x1 y1)
    have F3 := Lib.hid (fun W h => HCx.out X A1 d1 W h x1 y1 (by omega))
    rw [ha, hqa] at F1
    rw [hb, hqb] at F2
    rw [m1] at F3
    rw [hqa] at m2
    have m5 := m3 o
    rw [hqb, HQ0.out] at m5
    by_cases go : o = s
    · have u1 := str_nb go
      have u2 := str_eq go
      clear m5
      subst m2
      clear m1 m3 ha hqa hb hqb go
      have v0 := (HV.out w4 hU.out).1
      have v1 := (HV.out w4 hU.out).2
      go_wp2_with fail
      refine (F1.out _ (R1.out.below hU.out)).mono ?_
      rintro e w105 ⟨rfl, hbw105⟩
      have hU := Lib.hid (hU.out.trans (hbw105.mono hU.out.size))
      clear hbw105 v0 v1
      have v0 := (HV.out w105 hU.out).1
      have v1 := (HV.out w105 hU.out).2
      go_wp2_with fail
      refine (F2.out _ (R1.out.below hU.out)).mono ?_
      rintro e w106 ⟨rfl, hbw106⟩
      have hU := Lib.hid (hU.out.trans (hbw106.mono hU.out.size))
      clear hbw106 v0 v1
      have v0 := (HV.out w106 hU.out).1
      have v1 := (HV.out w106 hU.out).2
      go_wp2_with fail
      refine (F3.out _ (R1.out.below hU.out)).mono ?_
      rintro e w107 ⟨rfl, hbw107⟩
      have hU := Lib.hid (hU.out.trans (hbw107.mono hU.out.size))
      clear hbw107 v0 v1
      have v0 := (HV.out w107 hU.out).1
      have v1 := (HV.out w107 hU.out).2
      clear F1 F2 F3
      by_cases g2 : E2 = 0
      · obtain ⟨m1, m2, m3, m4⟩ := K2.out g2
        subst g2
        obtain ⟨pa, ha⟩ : ∃ p, (fd Y nm).1 = p := ⟨_, rfl⟩
        obtain ⟨qa, hqa⟩ : ∃ p, (fd Y nm).2 = p := ⟨_, rfl⟩
        obtain ⟨pb, hb⟩ : ∃ p, (fd Y o).1 = p := ⟨_, rfl⟩
        obtain ⟨qb, hqb⟩ : ∃ p, (fd Y o).2 = p := ⟨_, rfl⟩
        have F1 := Lib.hid (fun W h => HFx.out Y nm A2 d2 W h x2 y2)
        have F2 := Lib.hid (fun W h => HFx.out Y o A2 d2 W h x2 y2)
        have F3 := Lib.hid (fun W h => HCx.out Y A2 d2 W h x2 y2 (by omega))
        rw [ha, hqa] at F1
        rw [hb, hqb] at F2
        rw [m1] at F3
        rw [ha] at m2
        have m5 := m3 o
        rw [hqb, HQ0.out] at m5
        by_cases go : o = nm
        · have u1 := str_nb go
          have u2 := str_eq go
          clear m5
          subst m2
          clear m1 m3 ha hqa hb hqb go
          have v0 := (HV.out w107 hU.out).1
          have v1 := (HV.out w107 hU.out).2
          go_wp2_with fail
          refine (F1.out _ (R2.out.below hU.out)).mono ?_
          rintro e w108 ⟨rfl, hbw108⟩
          have hU := Lib.hid (hU.out.trans (hbw108.mono hU.out.size))
          clear hbw108 v0 v1
          have v0 := (HV.out w108 hU.out).1
          have v1 := (HV.out w108 hU.out).2
          go_wp2_with fail
          refine (F2.out _ (R2.out.below hU.out)).mono ?_
          rintro e w109 ⟨rfl, hbw109⟩
          have hU := Lib.hid (hU.out.trans (hbw109.mono hU.out.size))
          clear hbw109 v0 v1
          have v0 := (HV.out w109 hU.out).1
          have v1 := (HV.out w109 hU.out).2
          go_wp2_with fail
          refine (F3.out _ (R2.out.below hU.out)).mono ?_
          rintro e w110 ⟨rfl, hbw110⟩
          have hU := Lib.hid (hU.out.trans (hbw110.mono hU.out.size))
          clear hbw110 v0 v1
          have v0 := (HV.out w110 hU.out).1
          have v1 := (HV.out w110 hU.out).2
          clear F1 F2 F3
          by_cases g3 : E3 = 0
          · obtain ⟨m1, m2, m3, m4⟩ := K3.out g3
            subst g3
            obtain ⟨pa, ha⟩ : ∃ p, (fd Z nm).1 = p := ⟨_, rfl⟩
            obtain ⟨qa, hqa⟩ : ∃ p, (fd Z nm).2 = p := ⟨_, rfl⟩
            obtain ⟨pb, hb⟩ : ∃ p, (fd Z o).1 = p := ⟨_, rfl⟩
            obtain ⟨qb, hqb⟩ : ∃ p, (fd Z o).2 = p := ⟨_, rfl⟩
            have F1 := Lib.hid (fun W h => HFx.out Z nm A3 d3 W h x3 y3)
            have F2 := Lib.hid (fun W h => HFx.out Z o A3 d3 W h x3 y3)
            have F3 := Lib.hid (fun W h => HCx.out Z A3 d3 W h x3 y3 (by omega))
            rw [ha, hqa] at F1
            rw [hb, hqb] at F2
            rw [m1] at F3
            rw [hqa] at m2
            have m5 := m3 o
            rw [hqb, HQ0.out] at m5
            by_cases go : o = nm
            · have u1 := str_nb go
              have u2 := str_eq go
              clear m5
              subst m2
              have zl : ((Z.length : Int) != (n : Int)) = false := by simp; omega
              clear m4
              clear m1 m3 ha hqa hb hqb go
              have v0 := (HV.out w110 hU.out).1
              have v1 := (HV.out w110 hU.out).2
              go_wp2_with fail
              refine (F1.out _ (R3.out.below hU.out)).mono ?_
              rintro e w111 ⟨rfl, hbw111⟩
              have hU := Lib.hid (hU.out.trans (hbw111.mono hU.out.size))
              clear hbw111 v0 v1
              have v0 := (HV.out w111 hU.out).1
              have v1 := (HV.out w111 hU.out).2
              go_wp2_with fail
              refine (F2.out _ (R3.out.below hU.out)).mono ?_
              rintro e w112 ⟨rfl, hbw112⟩
              have hU := Lib.hid (hU.out.trans (hbw112.mono hU.out.size))
              clear hbw112 v0 v1
              have v0 := (HV.out w112 hU.out).1
              have v1 := (HV.out w112 hU.out).2
              go_wp2_with fail
              refine (F3.out _ (R3.out.below hU.out)).mono ?_
              rintro e w113 ⟨rfl, hbw113⟩
              have hU := Lib.hid (hU.out.trans (hbw113.mono hU.out.size))
              clear hbw113 v0 v1
              have v0 := (HV.out w113 hU.out).1
              have v1 := (HV.out w113 hU.out).2
              clear F1 F2 F3
              go_wp2_with fail
              refine (HK.out _).mono ?_
              rintro e w9 ⟨rfl, hb9⟩
              go_wp2
              go_ret
              exact ⟨rfl, HB.out.trans ((hU.out.trans (hb9.mono hU.out.size)).mono HB.out.size)⟩
            · have u1 := str_nn go
              have u2 := str_ne go
              have m5 := m5 go
              subst m5
              subst m2
              have zl : ((Z.length : Int) != (n : Int)) = false := by simp; omega
              clear m4
              clear m1 m3 ha hqa hb hqb go
              have v0 := (HV.out w110 hU.out).1
              have v1 := (HV.out w110 hU.out).2
              go_wp2_with fail
              refine (F1.out _ (R3.out.below hU.out)).mono ?_
              rintro e w114 ⟨rfl, hbw114⟩
              have hU := Lib.hid (hU.out.trans (hbw114.mono hU.out.size))
              clear hbw114 v0 v1
              have v0 := (HV.out w114 hU.out).1
              have v1 := (HV.out w114 hU.out).2
              go_wp2_with fail
              refine (F2.out _ (R3.out.below hU.out)).mono ?_
              rintro e w115 ⟨rfl, hbw115⟩
              have hU := Lib.hid (hU.out.trans (hbw115.mono hU.out.size))
              clear hbw115 v0 v1
              have v0 := (HV.out w115 hU.out).1
              have v1 := (HV.out w115 hU.out).2
              go_wp2_with fail
              refine (F3.out _ (R3.out.below hU.out)).mono ?_
              rintro e w116 ⟨rfl, hbw116⟩
              have hU := Lib.hid (hU.out.trans (hbw116.mono hU.out.size))
              clear hbw116 v0 v1
              have v0 := (HV.out w116 hU.out).1
              have v1 := (HV.out w116 hU.out).2
              clear F1 F2 F3
              go_wp2_with fail
              refine (HK.out _).mono ?_
              rintro e w9 ⟨rfl, hb9⟩
              go_wp2
              go_ret
              exact ⟨rfl, HB.out.trans ((hU.out.trans (hb9.mono hU.out.size)).mono HB.out.size)⟩
          · have g3b : (E3 == 0) = false := by simpa using g3
            clear g3
            go_wp2_with fail
            refine (HK.out _).mono ?_
            rintro e w9 ⟨rfl, hb9⟩
            go_wp2
            go_ret
            exact ⟨rfl, HB.out.trans ((hU.out.trans (hb9.mono hU.out.size)).mono HB.out.size)⟩
        · have u1 := str_nn go
          have u2 := str_ne go
          have m5 := m5 go
          have GN := Lib.hid go
          subst m5
          subst m2
          clear m1 m3 ha hqa hb hqb go
          have v0 := (HV.out w107 hU.out).1
          have v1 := (HV.out w107 hU.out).2
          go_wp2_with fail
          refine (F1.out _ (R2.out.below hU.out)).mono ?_
          rintro e w117 ⟨rfl, hbw117⟩
          have hU := Lib.hid (hU.out.trans (hbw117.mono hU.out.size))
          clear hbw117 v0 v1
          have v0 := (HV.out w117 hU.out).1
          have v1 := (HV.out w117 hU.out).2
          go_wp2_with fail
          refine (F2.out _ (R2.out.below hU.out)).mono ?_
          rintro e w118 ⟨rfl, hbw118⟩
          have hU := Lib.hid (hU.out.trans (hbw118.mono hU.out.size))
          clear hbw118 v0 v1
          have v0 := (HV.out w118 hU.out).1
          have v1 := (HV.out w118 hU.out).2
          go_wp2_with fail
          refine (F3.out _ (R2.out.below hU.out)).mono ?_
          rintro e w119 ⟨rfl, hbw119⟩
          have hU := Lib.hid (hU.out.trans (hbw119.mono hU.out.size))
          clear hbw119 v0 v1
          have v0 := (HV.out w119 hU.out).1
          have v1 := (HV.out w119 hU.out).2
          clear F1 F2 F3
          by_cases g3 : E3 = 0
          · obtain ⟨m1, m2, m3, m4⟩ := K3.out g3
            subst g3
            obtain ⟨pa, ha⟩ : ∃ p, (fd Z nm).1 = p := ⟨_, rfl⟩
            obtain ⟨qa, hqa⟩ : ∃ p, (fd Z nm).2 = p := ⟨_, rfl⟩
            obtain ⟨pb, hb⟩ : ∃ p, (fd Z o).1 = p := ⟨_, rfl⟩
            obtain ⟨qb, hqb⟩ : ∃ p, (fd Z o).2 = p := ⟨_, rfl⟩
            have F1 := Lib.hid (fun W h => HFx.out Z nm A3 d3 W h x3 y3)
            have F2 := Lib.hid (fun W h => HFx.out Z o A3 d3 W h x3 y3)
            have F3 := Lib.hid (fun W h => HCx.out Z A3 d3 W h x3 y3 (by omega))
            rw [ha, hqa] at F1
            rw [hb, hqb] at F2
            rw [m1] at F3
            rw [hqa] at m2
            have m5 := m3 o
            rw [hqb, HQ0.out] at m5
            by_cases go : o = nm
            · exact absurd go GN.out
            · have u1 := str_nn go
              have u2 := str_ne go
              have m5 := m5 go
              subst m5
              subst m2
              have zl : ((Z.length : Int) != (n : Int)) = false := by simp; omega
              clear m4
              clear m1 m3 ha hqa hb hqb go
              have v0 := (HV.out w119 hU.out).1
              have v1 := (HV.out w119 hU.out).2
              go_wp2_with fail
              refine (F1.out _ (R3.out.below hU.out)).mono ?_
              rintro e w120 ⟨rfl, hbw120⟩
              have hU := Lib.hid (hU.out.trans (hbw120.mono hU.out.size))
              clear hbw120 v0 v1
              have v0 := (HV.out w120 hU.out).1
              have v1 := (HV.out w120 hU.out).2
              go_wp2_with fail
              refine (F2.out _ (R3.out.below hU.out)).mono ?_
              rintro e w121 ⟨rfl, hbw121⟩
              have hU := Lib.hid (hU.out.trans (hbw121.mono hU.out.size))
              clear hbw121 v0 v1
              have v0 := (HV.out w121 hU.out).1
              have v1 := (HV.out w121 hU.out).2
              go_wp2_with fail
              refine (F3.out _ (R3.out.below hU.out)).mono ?_
              rintro e w122 ⟨rfl, hbw122⟩
              have hU := Lib.hid (hU.out.trans (hbw122.mono hU.out.size))
              clear hbw122 v0 v1
              have v0 := (HV.out w122 hU.out).1
              have v1 := (HV.out w122 hU.out).2
              clear F1 F2 F3
              go_wp2_with fail
              refine (HK.out _).mono ?_
              rintro e w9 ⟨rfl, hb9⟩
              go_wp2
              go_ret
              exact ⟨rfl, HB.out.trans ((hU.out.trans (hb9.mono hU.out.size)).mono HB.out.size)⟩
          · have g3b : (E3 == 0) = false := by simpa using g3
            clear g3
            go_wp2_with fail
            refine (HK.out _).mono ?_
            rintro e w9 ⟨rfl, hb9⟩
            go_wp2
            go_ret
            exact ⟨rfl, HB.out.trans ((hU.out.trans (hb9.mono hU.out.size)).mono HB.out.size)⟩
      · have g2b : (E2 == 0) = false := by simpa using g2
        clear g2
        by_cases g3 : E3 = 0
        · obtain ⟨m1, m2, m3, m4⟩ := K3.out g3
          subst g3
          obtain ⟨pa, ha⟩ : ∃ p, (fd Z nm).1 = p := ⟨_, rfl⟩
          obtain ⟨qa, hqa⟩ : ∃ p, (fd Z nm).2 = p := ⟨_, rfl⟩
          obtain ⟨pb, hb⟩ : ∃ p, (fd Z o).1 = p := ⟨_, rfl⟩
          obtain ⟨qb, hqb⟩ : ∃ p, (fd Z o).2 = p := ⟨_, rfl⟩
          have F1 := Lib.hid (fun W h => HFx.out Z nm A3 d3 W h x3 y3)
          have F2 := Lib.hid (fun W h => HFx.out Z o A3 d3 W h x3 y3)
          have F3 := Lib.hid (fun W h => HCx.out Z A3 d3 W h x3 y3 (by omega))
          rw [ha, hqa] at F1
          rw [hb, hqb] at F2
          rw [m1] at F3
          rw [hqa] at m2
          have m5 := m3 o
          rw [hqb, HQ0.out] at m5
          by_cases go : o = nm
          · have u1 := str_nb go
            have u2 := str_eq go
            clear m5
            subst m2
            have zl : ((Z.length : Int) != (n : Int)) = false := by simp; omega
            clear m4
            clear m1 m3 ha hqa hb hqb go
            have v0 := (HV.out w107 hU.out).1
            have v1 := (HV.out w107 hU.out).2
            go_wp2_with fail
            refine (F1.out _ (R3.out.below hU.out)).mono ?_
            rintro e w123 ⟨rfl, hbw123⟩
            have hU := Lib.hid (hU.out.trans (hbw123.mono hU.out.size))
            clear hbw123 v0 v1
            have v0 := (HV.out w123 hU.out).1
            have v1 := (HV.out w123 hU.out).2
            go_wp2_with fail
            refine (F2.out _ (R3.out.below hU.out)).mono ?_
            rintro e w124 ⟨rfl, hbw124⟩
            have hU := Lib.hid (hU.out.trans (hbw124.mono hU.out.size))
            clear hbw124 v0 v1
            have v0 := (HV.out w124 hU.out).1
            have v1 := (HV.out w124 hU.out).2
            go_wp2_with fail
            refine (F3.out _ (R3.out.below hU.out)).mono ?_
            rintro e w125 ⟨rfl, hbw125⟩
            have hU := Lib.hid (hU.out.trans (hbw125.mono hU.out.size))
            clear hbw125 v0 v1
            have v0 := (HV.out w125 hU.out).1
            have v1 := (HV.out w125 hU.out).2
            clear F1 F2 F3
            go_wp2_with fail
            refine (HK.out _).mono ?_
            rintro e w9 ⟨rfl, hb9⟩
            go_wp2
            go_ret
            exact ⟨rfl, HB.out.trans ((hU.out.trans (hb9.mono hU.out.size)).mono HB.out.size)⟩
          · have u1 := str_nn go
            have u2 := str_ne go
            have m5 := m5 go
            subst m5
            subst m2
            have zl : ((Z.length : Int) != (n : Int)) = false := by simp; omega
            clear m4
            clear m1 m3 ha hqa hb hqb go
            have v0 := (HV.out w107 hU.out).1
            have v1 := (HV.out w107 hU.out).2
            go_wp2_with fail
            refine (F1.out _ (R3.out.below hU.out)).mono ?_
            rintro e w126 ⟨rfl, hbw126⟩
            have hU := Lib.hid (hU.out.trans (hbw126.mono hU.out.size))
            clear hbw126 v0 v1
            have v0 := (HV.out w126 hU.out).1
            have v1 := (HV.out w126 hU.out).2
            go_wp2_with fail
            refine (F2.out _ (R3.out.below hU.out)).mono ?_
            rintro e w127 ⟨rfl, hbw127⟩
            have hU := Lib.hid (hU.out.trans (hbw127.mono hU.out.size))
            clear hbw127 v0 v1
            have v0 := (HV.out w127 hU.out).1
            have v1 := (HV.out w127 hU.out).2
            go_wp2_with fail
            refine (F3.out _ (R3.out.below hU.out)).mono ?_
            rintro e w128 ⟨rfl, hbw128⟩
            have hU := Lib.hid (hU.out.trans (hbw128.mono hU.out.size))
            clear hbw128 v0 v1
            have v0 := (HV.out w128 hU.out).1
            have v1 := (HV.out w128 hU.out).2
            clear F1 F2 F3
            go_wp2_with fail
            refine (HK.out _).mono ?_
            rintro e w9 ⟨rfl, hb9⟩
            go_wp2
            go_ret
            exact ⟨rfl, HB.out.trans ((hU.out.trans (hb9.mono hU.out.size)).mono HB.out.size)⟩
        · have g3b : (E3 == 0) = false := by simpa using g3
          clear g3
          go_wp2_with fail
          refine (HK.out _).mono ?_
          rintro e w9 ⟨rfl, hb9⟩
          go_wp2
          go_ret
          exact ⟨rfl, HB.out.trans ((hU.out.trans (hb9.mono hU.out.size)).mono HB.out.size)⟩
    · have u1 := str_nn go
      have u2 := str_ne go
      have m5 := m5 go
      subst m5
      subst m2
      clear m1 m3 ha hqa hb hqb go
      have v0 := (HV.out w4 hU.out).1
      have v1 := (HV.out w4 hU.out).2
      go_wp2_with fail
      refine (F1.out _ (R1.out.below hU.out)).mono ?_
      rintro e w129 ⟨rfl, hbw129⟩
      have hU := Lib.hid (hU.out.trans (hbw129.mono hU.out.size))
      clear hbw129 v0 v1
      have v0 := (HV.out w129 hU.out).1
      have v1 := (HV.out w129 hU.out).2
      go_wp2_with fail
      refine (F2.out _ (R1.out.below hU.out)).mono ?_
      rintro e w130 ⟨rfl, hbw130⟩
      have hU := Lib.hid (hU.out.trans (hbw130.mono hU.out.size))
      clear hbw130 v0 v1
      have v0 := (HV.out w130 hU.out).1
      have v1 := (HV.out w130 hU.out).2
      go_wp2_with fail
      refine (F3.out _ (R1.out.below hU.out)).mono ?_
      rintro e w131 ⟨rfl, hbw131⟩
      have hU := Lib.hid (hU.out.trans (hbw131.mono hU.out.size))
      clear hbw131 v0 v1
      have v0 := (HV.out w131 hU.out).1
      have v1 := (HV.out w131 hU.out).2
      clear F1 F2 F3
      by_cases g2 : E2 = 0
      · obtain ⟨m1, m2, m3, m4⟩ := K2.out g2
        subst g2
        obtain ⟨pa, ha⟩ : ∃ p, (fd Y nm).1 = p := ⟨_, rfl⟩
        obtain ⟨qa, hqa⟩ : ∃ p, (fd Y nm).2 = p := ⟨_, rfl⟩
        obtain ⟨pb, hb⟩ : ∃ p, (fd Y o).1 = p := ⟨_, rfl⟩
        obtain ⟨qb, hqb⟩ : ∃ p, (fd Y o).2 = p := ⟨_, rfl⟩
        have F1 := Lib.hid (fun W h => HFx.out Y nm A2 d2 W h x2 y2)
        have F2 := Lib.hid (fun W h => HFx.out Y o A2 d2 W h x2 y2)
        have F3 := Lib.hid (fun W h => HCx.out Y A2 d2 W h x2 y2 (by omega))
        rw [ha, hqa] at F1
        rw [hb, hqb] at F2
        rw [m1] at F3
        rw [ha] at m2
        have m5 := m3 o
        rw [hqb, HQ0.out] at m5
        by_cases go : o = nm
        · have u1 := str_nb go
          have u2 := str_eq go
          clear m5
          subst m2
          clear m1 m3 ha hqa hb hqb go
          have v0 := (HV.out w131 hU.out).1
          have v1 := (HV.out w131 hU.out).2
          go_wp2_with fail
          refine (F1.out _ (R2.out.below hU.out)).mono ?_
          rintro e w132 ⟨rfl, hbw132⟩
          have hU := Lib.hid (hU.out.trans (hbw132.mono hU.out.size))
          clear hbw132 v0 v1
          have v0 := (HV.out w132 hU.out).1
          have v1 := (HV.out w132 hU.out).2
          go_wp2_with fail
          refine (F2.out _ (R2.out.below hU.out)).mono ?_
          rintro e w133 ⟨rfl, hbw133⟩
          have hU := Lib.hid (hU.out.trans (hbw133.mono hU.out.size))
          clear hbw133 v0 v1
          have v0 := (HV.out w133 hU.out).1
          have v1 := (HV.out w133 hU.out).2
          go_wp2_with fail
          refine (F3.out _ (R2.out.below hU.out)).mono ?_
          rintro e w134 ⟨rfl, hbw134⟩
          have hU := Lib.hid (hU.out.trans (hbw134.mono hU.out.size))
          clear hbw134 v0 v1
          have v0 := (HV.out w134 hU.out).1
          have v1 := (HV.out w134 hU.out).2
          clear F1 F2 F3
          by_cases g3 : E3 = 0
          · obtain ⟨m1, m2, m3, m4⟩ := K3.out g3
            subst g3
            obtain ⟨pa, ha⟩ : ∃ p, (fd Z nm).1 = p := ⟨_, rfl⟩
            obtain ⟨qa, hqa⟩ : ∃ p, (fd Z nm).2 = p := ⟨_, rfl⟩
            obtain ⟨pb, hb⟩ : ∃ p, (fd Z o).1 = p := ⟨_, rfl⟩
            obtain ⟨qb, hqb⟩ : ∃ p, (fd Z o).2 = p := ⟨_, rfl⟩
            have F1 := Lib.hid (fun W h => HFx.out Z nm A3 d3 W h x3 y3)
            have F2 := Lib.hid (fun W h => HFx.out Z o A3 d3 W h x3 y3)
            have F3 := Lib.hid (fun W h => HCx.out Z A3 d3 W h x3 y3 (by omega))
            rw [ha, hqa] at F1
            rw [hb, hqb] at F2
            rw [m1] at F3
            rw [hqa] at m2
            have m5 := m3 o
            rw [hqb, HQ0.out] at m5
            by_cases go : o = nm
            · have u1 := str_nb go
              have u2 := str_eq go
              clear m5
              subst m2
              have zl : ((Z.length : Int) != (n : Int)) = false := by simp; omega
              clear m4
              clear m1 m3 ha hqa hb hqb go
              have v0 := (HV.out w134 hU.out).1
              have v1 := (HV.out w134 hU.out).2
              go_wp2_with fail
              refine (F1.out _ (R3.out.below hU.out)).mono ?_
              rintro e w135 ⟨rfl, hbw135⟩
              have hU := Lib.hid (hU.out.trans (hbw135.mono hU.out.size))
              clear hbw135 v0 v1
              have v0 := (HV.out w135 hU.out).1
              have v1 := (HV.out w135 hU.out).2
              go_wp2_with fail
              refine (F2.out _ (R3.out.below hU.out)).mono ?_
              rintro e w136 ⟨rfl, hbw136⟩
              have hU := Lib.hid (hU.out.trans (hbw136.mono hU.out.size))
              clear hbw136 v0 v1
              have v0 := (HV.out w136 hU.out).1
              have v1 := (HV.out w136 hU.out).2
              go_wp2_with fail
              refine (F3.out _ (R3.out.below hU.out)).mono ?_
              rintro e w137 ⟨rfl, hbw137⟩
              have hU := Lib.hid (hU.out.trans (hbw137.mono hU.out.size))
              clear hbw137 v0 v1
              have v0 := (HV.out w137 hU.out).1
              have v1 := (HV.out w137 hU.out).2
              clear F1 F2 F3
              go_wp2_with fail
              refine (HK.out _).mono ?_
              rintro e w9 ⟨rfl, hb9⟩
              go_wp2
              go_ret
              exact ⟨rfl, HB.out.trans ((hU.out.trans (hb9.mono hU.out.size)).mono HB.out.size)⟩
            · have u1 := str_nn go
              have u2 := str_ne go
              have m5 := m5 go
              subst m5
              subst m2
              have zl : ((Z.length : Int) != (n : Int)) = false := by simp; omega
              clear m4
              clear m1 m3 ha hqa hb hqb go
              have v0 := (HV.out w134 hU.out).1
              have v1 := (HV.out w134 hU.out).2
              go_wp2_with fail
              refine (F1.out _ (R3.out.below hU.out)).mono ?_
              rintro e w138 ⟨rfl, hbw138⟩
              have hU := Lib.hid (hU.out.trans (hbw138.mono hU.out.size))
              clear hbw138 v0 v1
              have v0 := (HV.out w138 hU.out).1
              have v1 := (HV.out w138 hU.out).2
              go_wp2_with fail
              refine (F2.out _ (R3.out.below hU.out)).mono ?_
              rintro e w139 ⟨rfl, hbw139⟩
              have hU := Lib.hid (hU.out.trans (hbw139.mono hU.out.size))
              clear hbw139 v0 v1
              have v0 := (HV.out w139 hU.out).1
              have v1 := (HV.out w139 hU.out).2
              go_wp2_with fail
              refine (F3.out _ (R3.out.below hU.out)).mono ?_
              rintro e w140 ⟨rfl, hbw140⟩
              have hU := Lib.hid (hU.out.trans (hbw140.mono hU.out.size))
              clear hbw140 v0 v1
              have v0 := (HV.out w140 hU.out).1
              have v1 := (HV.out w140 hU.out).2
              clear F1 F2 F3
              go_wp2_with fail
              refine (HK.out _).mono ?_
              rintro e w9 ⟨rfl, hb9⟩
              go_wp2
              go_ret
              exact ⟨rfl, HB.out.trans ((hU.out.trans (hb9.mono hU.out.size)).mono HB.out.size)⟩
          · have g3b : (E3 == 0) = false := by simpa using g3
            clear g3
            go_wp2_with fail
            refine (HK.out _).mono ?_
            rintro e w9 ⟨rfl, hb9⟩
            go_wp2
            go_ret
            exact ⟨rfl, HB.out.trans ((hU.out.trans (hb9.mono hU.out.size)).mono HB.out.size)⟩
        · have u1 := str_nn go
          have u2 := str_ne go
          have m5 := m5 go
          have GN := Lib.hid go
          subst m5
          subst m2
          clear m1 m3 ha hqa hb hqb go
          have v0 := (HV.out w131 hU.out).1
          have v1 := (HV.out w131 hU.out).2
          go_wp2_with fail
          refine (F1.out _ (R2.out.below hU.out)).mono ?_
          rintro e w141 ⟨rfl, hbw141⟩
          have hU := Lib.hid (hU.out.trans (hbw141.mono hU.out.size))
          clear hbw141 v0 v1
          have v0 := (HV.out w141 hU.out).1
          have v1 := (HV.out w141 hU.out).2
          go_wp2_with fail
          refine (F2.out _ (R2.out.below hU.out)).mono ?_
          rintro e w142 ⟨rfl, hbw142⟩
          have hU := Lib.hid (hU.out.trans (hbw142.mono hU.out.size))
          clear hbw142 v0 v1
          have v0 := (HV.out w142 hU.out).1
          have v1 := (HV.out w142 hU.out).2
          go_wp2_with fail
          refine (F3.out _ (R2.out.below hU.out)).mono ?_
          rintro e w143 ⟨rfl, hbw143⟩
          have hU := Lib.hid (hU.out.trans (hbw143.mono hU.out.size))
          clear hbw143 v0 v1
          have v0 := (HV.out w143 hU.out).1
          have v1 := (HV.out w143 hU.out).2
          clear F1 F2 F3
          by_cases g3 : E3 = 0
          · obtain ⟨m1, m2, m3, m4⟩ := K3.out g3
            subst g3
            obtain ⟨pa, ha⟩ : ∃ p, (fd Z nm).1 = p := ⟨_, rfl⟩
            obtain ⟨qa, hqa⟩ : ∃ p, (fd Z nm).2 = p := ⟨_, rfl⟩
            obtain ⟨pb, hb⟩ : ∃ p, (fd Z o).1 = p := ⟨_, rfl⟩
            obtain ⟨qb, hqb⟩ : ∃ p, (fd Z o).2 = p := ⟨_, rfl⟩
            have F1 := Lib.hid (fun W h => HFx.out Z nm A3 d3 W h x3 y3)
            have F2 := Lib.hid (fun W h => HFx.out Z o A3 d3 W h x3 y3)
            have F3 := Lib.hid (fun W h => HCx.out Z A3 d3 W h x3 y3 (by omega))
            rw [ha, hqa] at F1
            rw [hb, hqb] at F2
            rw [m1] at F3
            rw [hqa] at m2
            have m5 := m3 o
            rw [hqb, HQ0.out] at m5
            by_cases go : o = nm
            · exact absurd go GN.out
            · have u1 := str_nn go
              have u2 := str_ne go
              have m5 := m5 go
              subst m5
              subst m2
              have zl : ((Z.length : Int) != (n : Int)) = false := by simp; omega
              clear m4
              clear m1 m3 ha hqa hb hqb go
              have v0 := (HV.out w143 hU.out).1
              have v1 := (HV.out w143 hU.out).2
              go_wp2_with fail
              refine (F1.out _ (R3.out.below hU.out)).mono ?_
              rintro e w144 ⟨rfl, hbw144⟩
              have hU := Lib.hid (hU.out.trans (hbw144.mono hU.out.size))
              clear hbw144 v0 v1
              have v0 := (HV.out w144 hU.out).1
              have v1 := (HV.out w144 hU.out).2
              go_wp2_with fail
              refine (F2.out _ (R3.out.below hU.out)).mono ?_
              rintro e w145 ⟨rfl, hbw145⟩
              have hU := Lib.hid (hU.out.trans (hbw145.mono hU.out.size))
              clear hbw145 v0 v1
              have v0 := (HV.out w145 hU.out).1
              have v1 := (HV.out w145 hU.out).2
              go_wp2_with fail
              refine (F3.out _ (R3.out.below hU.out)).mono ?_
              rintro e w146 ⟨rfl, hbw146⟩
              have hU := Lib.hid (hU.out.trans (hbw146.mono hU.out.size))
              clear hbw146 v0 v1
              have v0 := (HV.out w146 hU.out).1
              have v1 := (HV.out w146 hU.out).2
              clear F1 F2 F3
              go_wp2_with fail
              refine (HK.out _).mono ?_
              rintro e w9 ⟨rfl, hb9⟩
              go_wp2
              go_ret
              exact ⟨rfl, HB.out.trans ((hU.out.trans (hb9.mono hU.out.size)).mono HB.out.size)⟩
          · have g3b : (E3 == 0) = false := by simpa using g3
            clear g3
            go_wp2_with fail
            refine (HK.out _).mono ?_
            rintro e w9 ⟨rfl, hb9⟩
            go_wp2
            go_ret
            exact ⟨rfl, HB.out.trans ((hU.out.trans (hb9.mono hU.out.size)).mono HB.out.size)⟩
      · have g2b : (E2 == 0) = false := by simpa using g2
        clear g2
        by_cases g3 : E3 = 0
        · obtain ⟨m1, m2, m3, m4⟩ := K3.out g3
          subst g3
          obtain ⟨pa, ha⟩ : ∃ p, (fd Z nm).1 = p := ⟨_, rfl⟩
          obtain ⟨qa, hqa⟩ : ∃ p, (fd Z nm).2 = p := ⟨_, rfl⟩
          obtain ⟨pb, hb⟩ : ∃ p, (fd Z o).1 = p := ⟨_, rfl⟩
          obtain ⟨qb, hqb⟩ : ∃ p, (fd Z o).2 = p := ⟨_, rfl⟩
          have F1 := Lib.hid (fun W h => HFx.out Z nm A3 d3 W h x3 y3)
          have F2 := Lib.hid (fun W h => HFx.out Z o A3 d3 W h x3 y3)
          have F3 := Lib.hid (fun W h => HCx.out Z A3 d3 W h x3 y3 (by omega))
          rw [ha, hqa] at F1
          rw [hb, hqb] at F2
          rw [m1] at F3
          rw [hqa] at m2
          have m5 := m3 o
          rw [hqb, HQ0.out] at m5
          by_cases go : o = nm
          · have u1 := str_nb go
            have u2 := str_eq go
            clear m5
            subst m2
            have zl : ((Z.length : Int) != (n : Int)) = false := by simp; omega
            clear m4
            clear m1 m3 ha hqa hb hqb go
            have v0 := (HV.out w131 hU.out).1
            have v1 := (HV.out w131 hU.out).2
            go_wp2_with fail
            refine (F1.out _ (R3.out.below hU.out)).mono ?_
            rintro e w147 ⟨rfl, hbw147⟩
            have hU := Lib.hid (hU.out.trans (hbw147.mono hU.out.size))
            clear hbw147 v0 v1
            have v0 := (HV.out w147 hU.out).1
            have v1 := (HV.out w147 hU.out).2
            go_wp2_with fail
            refine (F2.out _ (R3.out.below hU.out)).mono ?_
            rintro e w148 ⟨rfl, hbw148⟩
            have hU := Lib.hid (hU.out.trans (hbw148.mono hU.out.size))
            clear hbw148 v0 v1
            have v0 := (HV.out w148 hU.out).1
            have v1 := (HV.out w148 hU.out).2
            go_wp2_with fail
            refine (F3.out _ (R3.out.below hU.out)).mono ?_
            rintro e w149 ⟨rfl, hbw149⟩
            have hU := Lib.hid (hU.out.trans (hbw149.mono hU.out.size))
            clear hbw149 v0 v1
            have v0 := (HV.out w149 hU.out).1
            have v1 := (HV.out w149 hU.out).2
            clear F1 F2 F3
            go_wp2_with fail
            refine (HK.out _).mono ?_
            rintro e w9 ⟨rfl, hb9⟩
            go_wp2
            go_ret
            exact ⟨rfl, HB.out.trans ((hU.out.trans (hb9.mono hU.out.size)).mono HB.out.size)⟩
          · have u1 := str_nn go
            have u2 := str_ne go
            have m5 := m5 go
            subst m5
            subst m2
            have zl : ((Z.length : Int) != (n : Int)) = false := by simp; omega
            clear m4
            clear m1 m3 ha hqa hb hqb go
            have v0 := (HV.out w131 hU.out).1
            have v1 := (HV.out w131 hU.out).2
            go_wp2_with fail
            refine (F1.out _ (R3.out.below hU.out)).mono ?_
            rintro e w150 ⟨rfl, hbw150⟩
            have hU := Lib.hid (hU.out.trans (hbw150.mono hU.out.size))
            clear hbw150 v0 v1
            have v0 := (HV.out w150 hU.out).1
            have v1 := (HV.out w150 hU.out).2
            go_wp2_with fail
            refine (F2.out _ (R3.out.below hU.out)).mono ?_
            rintro e w151 ⟨rfl, hbw151⟩
            have hU := Lib.hid (hU.out.trans (hbw151.mono hU.out.size))
            clear hbw151 v0 v1
            have v0 := (HV.out w151 hU.out).1
            have v1 := (HV.out w151 hU.out).2
            go_wp2_with fail
            refine (F3.out _ (R3.out.below hU.out)).mono ?_
            rintro e w152 ⟨rfl, hbw152⟩
            have hU := Lib.hid (hU.out.trans (hbw152.mono hU.out.size))
            clear hbw152 v0 v1
            have v0 := (HV.out w152 hU.out).1
            have v1 := (HV.out w152 hU.out).2
            clear F1 F2 F3
            go_wp2_with fail
            refine (HK.out _).mono ?_
            rintro e w9 ⟨rfl, hb9⟩
            go_wp2
            go_ret
            exact ⟨rfl, HB.out.trans ((hU.out.trans (hb9.mono hU.out.size)).mono HB.out.size)⟩
        · have g3b : (E3 == 0) = false := by simpa using g3
          clear g3
          go_wp2_with fail
          refine (HK.out _).mono ?_
          rintro e w9 ⟨rfl, hb9⟩
          go_wp2
          go_ret
          exact ⟨rfl, HB.out.trans ((hU.out.trans (hb9.mono hU.out.size)).mono HB.out.size)⟩
  · have g1b : (E1 == 0) = false := by simpa using g1
    clear g1
    by_cases g2 : E2 = 0
    · obtain ⟨m1, m2, m3, m4⟩ := K2.out g2
      subst g2
      obtain ⟨pa, ha⟩ : ∃ p, (fd Y nm).1 = p := ⟨_, rfl⟩
      obtain ⟨qa, hqa⟩ : ∃ p, (fd Y nm).2 = p := ⟨_, rfl⟩
      obtain ⟨pb, hb⟩ : ∃ p, (fd Y o).1 = p := ⟨_, rfl⟩
      obtain ⟨qb, hqb⟩ : ∃ p, (fd Y o).2 = p := ⟨_, rfl⟩
      have F1 := Lib.hid (fun W h => HFx.out Y nm A2 d2 W h x2 y2)
      have F2 := Lib.hid (fun W h => HFx.out Y o A2 d2 W h x2 y2)
      have F3 := Lib.hid (fun W h => HCx.out Y A2 d2 W h x2 y2 (by omega))
      rw [ha, hqa] at F1
      rw [hb, hqb] at F2
      rw [m1] at F3
      rw [ha] at m2
      have m5 := m3 o
      rw [hqb, HQ0.out] at m5
      by_cases go : o = nm
      · have u1 := str_nb go
        have u2 := str_eq go
        clear m5
        subst m2
        clear m1 m3 ha hqa hb hqb go
        have v0 := (HV.out w4 hU.out).1
        have v1 := (HV.out w4 hU.out).2
        go_wp2_with fail
        refine (F1.out _ (R2.out.below hU.out)).mono ?_
        rintro e w153 ⟨rfl, hbw153⟩
        have hU := Lib.hid (hU.out.trans (hbw153.mono hU.out.size))
        clear hbw153 v0 v1
        have v0 := (HV.out w153 hU.out).1
        have v1 := (HV.out w153 hU.out).2
        go_wp2_with fail
        refine (F2.out _ (R2.out.below hU.out)).mono ?_
        rintro e w154 ⟨rfl, hbw154⟩
        have hU := Lib.hid (hU.out.trans (hbw154.mono hU.out.size))
        clear hbw154 v0 v1
        have v0 := (HV.out w154 hU.out).1
        have v1 := (HV.out w154 hU.out).2
        go_wp2_with fail
        refine (F3.out _ (R2.out.below hU.out)).mono ?_
        rintro e w155 ⟨rfl, hbw155⟩
        have hU := Lib.hid (hU.out.trans (hbw155.mono hU.out.size))
        clear hbw155 v0 v1
        have v0 := (HV.out w155 hU.out).1
        have v1 := (HV.out w155 hU.out).2
        clear F1 F2 F3
        by_cases g3 : E3 = 0
        · obtain ⟨m1, m2, m3, m4⟩ := K3.out g3
          subst g3
          obtain ⟨pa, ha⟩ : ∃ p, (fd Z nm).1 = p := ⟨_, rfl⟩
          obtain ⟨qa, hqa⟩ : ∃ p, (fd Z nm).2 = p := ⟨_, rfl⟩
          obtain ⟨pb, hb⟩ : ∃ p, (fd Z o).1 = p := ⟨_, rfl⟩
          obtain ⟨qb, hqb⟩ : ∃ p, (fd Z o).2 = p := ⟨_, rfl⟩
          have F1 := Lib.hid (fun W h => HFx.out Z nm A3 d3 W h x3 y3)
          have F2 := Lib.hid (fun W h => HFx.out Z o A3 d3 W h x3 y3)
          have F3 := Lib.hid (fun W h => HCx.out Z A3 d3 W h x3 y3 (by omega))
          rw [ha, hqa] at F1
          rw [hb, hqb] at F2
          rw [m1] at F3
          rw [hqa] at m2
          have m5 := m3 o
          rw [hqb, HQ0.out] at m5
          by_cases go : o = nm
          · have u1 := str_nb go
            have u2 := str_eq go
            clear m5
            subst m2
            have zl : ((Z.length : Int) != (n : Int)) = false := by simp; omega
            clear m4
            clear m1 m3 ha hqa hb hqb go
            have v0 := (HV.out w155 hU.out).1
            have v1 := (HV.out w155 hU.out).2
            go_wp2_with fail
            refine (F1.out _ (R3.out.below hU.out)).mono ?_
            rintro e w156 ⟨rfl, hbw156⟩
            have hU := Lib.hid (hU.out.trans (hbw156.mono hU.out.size))
            clear hbw156 v0 v1
            have v0 := (HV.out w156 hU.out).1
            have v1 := (HV.out w156 hU.out).2
            go_wp2_with fail
            refine (F2.out _ (R3.out.below hU.out)).mono ?_
            rintro e w157 ⟨rfl, hbw157⟩
            have hU := Lib.hid (hU.out.trans (hbw157.mono hU.out.size))
            clear hbw157 v0 v1
            have v0 := (HV.out w157 hU.out).1
            have v1 := (HV.out w157 hU.out).2
            go_wp2_with fail
            refine (F3.out _ (R3.out.below hU.out)).mono ?_
            rintro e w158 ⟨rfl, hbw158⟩
            have hU := Lib.hid (hU.out.trans (hbw158.mono hU.out.size))
            clear hbw158 v0 v1
            have v0 := (HV.out w158 hU.out).1
            have v1 := (HV.out w158 hU.out).2
            clear F1 F2 F3
            go_wp2_with fail
            refine (HK.out _).mono ?_
            rintro e w9 ⟨rfl, hb9⟩
            go_wp2
            go_ret
            exact ⟨rfl, HB.out.trans ((hU.out.trans (hb9.mono hU.out.size)).mono HB.out.size)⟩
          · have u1 := str_nn go
            have u2 := str_ne go
            have m5 := m5 go
            subst m5
            subst m2
            have zl : ((Z.length : Int) != (n : Int)) = false := by simp; omega
            clear m4
            clear m1 m3 ha hqa hb hqb go
            have v0 := (HV.out w155 hU.out).1
            have v1 := (HV.out w155 hU.out).2
            go_wp2_with fail
            refine (F1.out _ (R3.out.below hU.out)).mono ?_
            rintro e w159 ⟨rfl, hbw159⟩
            have hU := Lib.hid (hU.out.trans (hbw159.mono hU.out.size))
            clear hbw159 v0 v1
            have v0 := (HV.out w159 hU.out).1
            have v1 := (HV.out w159 hU.out).2
            go_wp2_with fail
            refine (F2.out _ (R3.out.below hU.out)).mono ?_
            rintro e w160 ⟨rfl, hbw160⟩
            have hU := Lib.hid (hU.out.trans (hbw160.mono hU.out.size))
            clear hbw160 v0 v1
            have v0 := (HV.out w160 hU.out).1
            have v1 := (HV.out w160 hU.out).2
            go_wp2_with fail
            refine (F3.out _ (R3.out.below hU.out)).mono ?_
            rintro e w161 ⟨rfl, hbw161⟩
            have hU := Lib.hid (hU.out.trans (hbw161.mono hU.out.size))
            clear hbw161 v0 v1
            have v0 := (HV.out w161 hU.out).1
            have v1 := (HV.out w161 hU.out).2
            clear F1 F2 F3
            go_wp2_with fail
            refine (HK.out _).mono ?_
            rintro e w9 ⟨rfl, hb9⟩
            go_wp2
            go_ret
            exact ⟨rfl, HB.out.trans ((hU.out.trans (hb9.mono hU.out.size)).mono HB.out.size)⟩
        · have g3b : (E3 == 0) = false := by simpa using g3
          clear g3
          go_wp2_with fail
          refine (HK.out _).mono ?_
          rintro e w9 ⟨rfl, hb9⟩
          go_wp2
          go_ret
          exact ⟨rfl, HB.out.trans ((hU.out.trans (hb9.mono hU.out.size)).mono HB.out.size)⟩
      · have u1 := str_nn go
        have u2 := str_ne go
        have m5 := m5 go
        have GN := Lib.hid go
        subst m5
        subst m2
        clear m1 m3 ha hqa hb hqb go
        have v0 := (HV.out w4 hU.out).1
        have v1 := (HV.out w4 hU.out).2
        go_wp2_with fail
        refine (F1.out _ (R2.out.below hU.out)).mono ?_
        rintro e w162 ⟨rfl, hbw162⟩
        have hU := Lib.hid (hU.out.trans (hbw162.mono hU.out.size))
        clear hbw162 v0 v1
        have v0 := (HV.out w162 hU.out).1
        have v1 := (HV.out w162 hU.out).2
        go_wp2_with fail
        refine (F2.out _ (R2.out.below hU.out)).mono ?_
        rintro e w163 ⟨rfl, hbw163⟩
        have hU := Lib.hid (hU.out.trans (hbw163.mono hU.out.size))
        clear hbw163 v0 v1
        have v0 := (HV.out w163 hU.out).1
        have v1 := (HV.out w163 hU.out).2
        go_wp2_with fail
        refine (F3.out _ (R2.out.below hU.out)).mono ?_
        rintro e w164 ⟨rfl, hbw164⟩
        have hU := Lib.hid (hU.out.trans (hbw164.mono hU.out.size))
        clear hbw164 v0 v1
        have v0 := (HV.out w164 hU.out).1
        have v1 := (HV.out w164 hU.out).2
        clear F1 F2 F3
        by_cases g3 : E3 = 0
        · obtain ⟨m1, m2, m3, m4⟩ := K3.out g3
          subst g3
          obtain ⟨pa, ha⟩ : ∃ p, (fd Z nm).1 = p := ⟨_, rfl⟩
          obtain ⟨qa, hqa⟩ : ∃ p, (fd Z nm).2 = p := ⟨_, rfl⟩
          obtain ⟨pb, hb⟩ : ∃ p, (fd Z o).1 = p := ⟨_, rfl⟩
          obtain ⟨qb, hqb⟩ : ∃ p, (fd Z o).2 = p := ⟨_, rfl⟩
          have F1 := Lib.hid (fun W h => HFx.out Z nm A3 d3 W h x3 y3)
          have F2 := Lib.hid (fun W h => HFx.out Z o A3 d3 W h x3 y3)
          have F3 := Lib.hid (fun W h => HCx.out Z A3 d3 W h x3 y3 (by omega))
          rw [ha, hqa] at F1
          rw [hb, hqb] at F2
          rw [m1] at F3
          rw [hqa] at m2
          have m5 := m3 o
          rw [hqb, HQ0.out] at m5
          by_cases go : o = nm
          · exact absurd go GN.out
          · have u1 := str_nn go
            have u2 := str_ne go
            have m5 := m5 go
            subst m5
            subst m2
            have zl : ((Z.length : Int) != (n : Int)) = false := by simp; omega
            clear m4
            clear m1 m3 ha hqa hb hqb go
            have v0 := (HV.out w164 hU.out).1
            have v1 := (HV.out w164 hU.out).2
            go_wp2_with fail
            refine (F1.out _ (R3.out.below hU.out)).mono ?_
            rintro e w165 ⟨rfl, hbw165⟩
            have hU := Lib.hid (hU.out.trans (hbw165.mono hU.out.size))
            clear hbw165 v0 v1
            have v0 := (HV.out w165 hU.out).1
            have v1 := (HV.out w165 hU.out).2
            go_wp2_with fail
            refine (F2.out _ (R3.out.below hU.out)).mono ?_
            rintro e w166 ⟨rfl, hbw166⟩
            have hU := Lib.hid (hU.out.trans (hbw166.mono hU.out.size))
            clear hbw166 v0 v1
            have v0 := (HV.out w166 hU.out).1
            have v1 := (HV.out w166 hU.out).2
            go_wp2_with fail
            refine (F3.out _ (R3.out.below hU.out)).mono ?_
            rintro e w167 ⟨rfl, hbw167⟩
            have hU := Lib.hid (hU.out.trans (hbw167.mono hU.out.size))
            clear hbw167 v0 v1
            have v0 := (HV.out w167 hU.out).1
            have v1 := (HV.out w167 hU.out).2
            clear F1 F2 F3
            go_wp2_with fail
            refine (HK.out _).mono ?_
            rintro e w9 ⟨rfl, hb9⟩
            go_wp2
            go_ret
            exact ⟨rfl, HB.out.trans ((hU.out.trans (hb9.mono hU.out.size)).mono HB.out.size)⟩
        · have g3b : (E3 == 0) = false := by simpa using g3
          clear g3
          go_wp2_with fail
          refine (HK.out _).mono ?_
          rintro e w9 ⟨rfl, hb9⟩
          go_wp2
          go_ret
          exact ⟨rfl, HB.out.trans ((hU.out.trans (hb9.mono hU.out.size)).mono HB.out.size)⟩
    · have g2b : (E2 == 0) = false := by simpa using g2
      clear g2
      by_cases g3 : E3 = 0
      · obtain ⟨m1, m2, m3, m4⟩ := K3.out g3
        subst g3
        obtain ⟨pa, ha⟩ : ∃ p, (fd Z nm).1 = p := ⟨_, rfl⟩
        obtain ⟨qa, hqa⟩ : ∃ p, (fd Z nm).2 = p := ⟨_, rfl⟩
        obtain ⟨pb, hb⟩ : ∃ p, (fd Z o).1 = p := ⟨_, rfl⟩
        obtain ⟨qb, hqb⟩ : ∃ p, (fd Z o).2 = p := ⟨_, rfl⟩
        have F1 := Lib.hid (fun W h => HFx.out Z nm A3 d3 W h x3 y3)
        have F2 := Lib.hid (fun W h => HFx.out Z o A3 d3 W h x3 y3)
        have F3 := Lib.hid (fun W h => HCx.out Z A3 d3 W h x3 y3 (by omega))
        rw [ha, hqa] at F1
        rw [hb, hqb] at F2
        rw [m1] at F3
        rw [hqa] at m2
        have m5 := m3 o
        rw [hqb, HQ0.out] at m5
        by_cases go : o = nm
        · have u1 := str_nb go
          have u2 := str_eq go
          clear m5
          subst m2
          have zl : ((Z.length : Int) != (n : Int)) = false := by simp; omega
          clear m4
          clear m1 m3 ha hqa hb hqb go
          have v0 := (HV.out w4 hU.out).1
          have v1 := (HV.out w4 hU.out).2
          go_wp2_with fail
          refine (F1.out _ (R3.out.below hU.out)).mono ?_
          rintro e w168 ⟨rfl, hbw168⟩
          have hU := Lib.hid (hU.out.trans (hbw168.mono hU.out.size))
          clear hbw168 v0 v1
          have v0 := (HV.out w168 hU.out).1
          have v1 := (HV.out w168 hU.out).2
          go_wp2_with fail
          refine (F2.out _ (R3.out.below hU.out)).mono ?_
          rintro e w169 ⟨rfl, hbw169⟩
          have hU := Lib.hid (hU.out.trans (hbw169.mono hU.out.size))
          clear hbw169 v0 v1
          have v0 := (HV.out w169 hU.out).1
          have v1 := (HV.out w169 hU.out).2
          go_wp2_with fail
          refine (F3.out _ (R3.out.below hU.out)).mono ?_
          rintro e w170 ⟨rfl, hbw170⟩
          have hU := Lib.hid (hU.out.trans (hbw170.mono hU.out.size))
          clear hbw170 v0 v1
          have v0 := (HV.out w170 hU.out).1
          have v1 := (HV.out w170 hU.out).2
          clear F1 F2 F3
          go_wp2_with fail
          refine (HK.out _).mono ?_
          rintro e w9 ⟨rfl, hb9⟩
          go_wp2
          go_ret
          exact ⟨rfl, HB.out.trans ((hU.out.trans (hb9.mono hU.out.size)).mono HB.out.size)⟩
        · have u1 := str_nn go
          have u2 := str_ne go
          have m5 := m5 go
          subst m5
          subst m2
          have zl : ((Z.length : Int) != (n : Int)) = false := by simp; omega
          clear m4
          clear m1 m3 ha hqa hb hqb go
          have v0 := (HV.out w4 hU.out).1
          have v1 := (HV.out w4 hU.out).2
          go_wp2_with fail
          refine (F1.out _ (R3.out.below hU.out)).mono ?_
          rintro e w171 ⟨rfl, hbw171⟩
          have hU := Lib.hid (hU.out.trans (hbw171.mono hU.out.size))
          clear hbw171 v0 v1
          have v0 := (HV.out w171 hU.out).1
          have v1 := (HV.out w171 hU.out).2
          go_wp2_with fail
          refine (F2.out _ (R3.out.below hU.out)).mono ?_
          rintro e w172 ⟨rfl, hbw172⟩
          have hU := Lib.hid (hU.out.trans (hbw172.mono hU.out.size))
          clear hbw172 v0 v1
          have v0 := (HV.out w172 hU.out).1
          have v1 := (HV.out w172 hU.out).2
          go_wp2_with fail
          refine (F3.out _ (R3.out.below hU.out)).mono ?_
          rintro e w173 ⟨rfl, hbw173⟩
          have hU := Lib.hid (hU.out.trans (hbw173.mono hU.out.size))
          clear hbw173 v0 v1
          have v0 := (HV.out w173 hU.out).1
          have v1 := (HV.out w173 hU.out).2
          clear F1 F2 F3
          go_wp2_with fail
          refine (HK.out _).mono ?_
          rintro e w9 ⟨rfl, hb9⟩
          go_wp2
          go_ret
          exact ⟨rfl, HB.out.trans ((hU.out.trans (hb9.mono hU.out.size)).mono HB.out.size)⟩
      · have g3b : (E3 == 0) = false := by simpa using g3
        clear g3
        go_wp2_with fail
        refine (HK.out _).mono ?_
        rintro e w9 ⟨rfl, hb9⟩
        go_wp2
        go_ret
        exact ⟨rfl, HB.out.trans ((hU.out.trans (hb9.mono hU.out.size)).mono HB.out.size)⟩

set_option maxRecDepth 100000 in
set_option maxHeartbeats 2000000 in
theorem dirsKeeps_long (i : Int) (s nm o : ByteArray) (a : Option Addr) (n c : Nat) (w : World) (n1 : n ≤ 9223372036854775807) (s1 : s.size ≤ 9223372036854775807) (s2 : nm.size ≤ 9223372036854775807) (s3 : o.size ≤ 9223372036854775807) (h : ¬ (n ≤ 1500 ∧ s.size ≤ 500 ∧ nm.size ≤ 500 ∧ o.size ≤ 500)) :
    Calls Try.prog 6 #[.slice a n c, .agg #[.int .i64 i, .string s], .string nm, .string o] w fun e w' => e = .returned (.bool true) ∧ Below w.heap.size w w' := by
  have HK := Lib.hid (fun w => dknown_any w)
  have HL := Lib.hid (fun w => dlong_any a n c w n1)
  have B1 := Lib.hid ((Below.refl w.heap.size w).alloc (Nat.le_refl _) (.cells #[.int .i64 i, .string s] 23))
  by_cases h0 : 1500 < n
  · rw [decide_eq_true h0] at HL
    clear h h0
    go_enter Try.func6, Try.ntmps6
    go_wp2_with fail
    refine (HL.out _).mono ?_
    rintro e w' ⟨rfl, rfl⟩
    go_wp2_with fail
    refine (HK.out _).mono ?_
    rintro e w2 ⟨rfl, hb2⟩
    go_wp2
    go_ret
    exact ⟨rfl, B1.out.trans (hb2.mono B1.out.size)⟩
  · rw [decide_eq_false h0] at HL
    by_cases h1 : 500 < s.size
    · have t1 : decide (500 < (s.size : Int)) = true := by simp; omega
      clear h h0 h1
      go_enter Try.func6, Try.ntmps6
      go_wp2_with fail
      refine (HL.out _).mono ?_
      rintro e w' ⟨rfl, rfl⟩
      go_wp2_with fail
      refine (HK.out _).mono ?_
      rintro e w2 ⟨rfl, hb2⟩
      go_wp2
      go_ret
      exact ⟨rfl, B1.out.trans (hb2.mono B1.out.size)⟩
    · have t1 : decide (500 < (s.size : Int)) = false := by simp; omega
      by_cases h2 : 500 < nm.size
      · have t2 : decide (500 < (nm.size : Int)) = true := by simp; omega
        clear h h0 h1 h2
        go_enter Try.func6, Try.ntmps6
        go_wp2_with fail
        refine (HL.out _).mono ?_
        rintro e w' ⟨rfl, rfl⟩
        go_wp2_with fail
        refine (HK.out _).mono ?_
        rintro e w2 ⟨rfl, hb2⟩
        go_wp2
        go_ret
        exact ⟨rfl, B1.out.trans (hb2.mono B1.out.size)⟩
      · have t2 : decide (500 < (nm.size : Int)) = false := by simp; omega
        have t3 : decide (500 < (o.size : Int)) = true := by simp; omega
        clear h h0 h1 h2
        go_enter Try.func6, Try.ntmps6
        go_wp2_with fail
        refine (HL.out _).mono ?_
        rintro e w' ⟨rfl, rfl⟩
        go_wp2_with fail
        refine (HK.out _).mono ?_
        rintro e w2 ⟨rfl, hb2⟩
        go_wp2
        go_ret
        exact ⟨rfl, B1.out.trans (hb2.mono B1.out.size)⟩

theorem dirsKeeps_walk (a : Option Addr) (len cap : Nat) (z : List Int) (i : Int) (s nm o : ByteArray) (w : World) (hz : Row8 w a len cap z) (_w0 : (Lit.int .i64 i).wf = true) (ws : s.size ≤ maxLen) (wn : nm.size ≤ maxLen) (wo : o.size ≤ maxLen) :
    Calls Try.prog 6 #[.slice a len cap, .agg #[.int .i64 i, .string s], .string nm, .string o] w fun e w' => e = .returned (.bool true) ∧ Below w.heap.size w w' := by
  have c1 : cap ≤ 9223372036854775807 := by
    rcases hz with ⟨_, _, rfl, _⟩ | ⟨_, _, _, h, _⟩
    · omega
    · unfold maxLen at h; omega
  obtain ⟨n, hl, hc, hr, -⟩ := hz.rw
  unfold maxLen at ws wn wo
  by_cases h : len ≤ 1500 ∧ s.size ≤ 500 ∧ nm.size ≤ 500 ∧ o.size ≤ 500
  · exact dirsKeeps_short i s nm o a len cap n w h.2.1 h.2.2.1 h.2.2.2 hl h.1 hr hc c1
  · exact dirsKeeps_long i s nm o a len cap w (by omega) (by omega) (by omega) (by omega) h

end Go.Proofs.Ytbgimehbencdgaa
