/-
  The statement that to any bytes any entry is added, removed and turned, or it is told why not.
-/
import Derived.Test.YtbgimehbencdgaaDirRefB
namespace Go.Proofs.Ytbgimehbencdgaa
open Go.RowKit Crcm Tagm Dirm Go.ChangeShapes

theorem turns_no {l : List Int} {i to : Int} {s nm : ByteArray} (h : ¬ ck l = 0) : (adE l i s = 50 ∧ adL l i s = []) ∧ (wkE l nm = 50 ∧ rmL l nm = []) ∧ (tuE l nm to = 50 ∧ tuL l nm to = []) := by
  have e1 : adE l i s = 50 := by unfold adE; rw [if_neg h]
  have e2 : wkE l nm = 50 := by unfold wkE; rw [if_neg h]; exact (ck_range l).resolve_left h
  have e3 : tuE l nm to = 50 := by unfold tuE; rw [e2]; rfl
  exact ⟨⟨e1, ad_no (by rw [e1]; decide)⟩, ⟨e2, by unfold rmL; rw [if_neg (by rw [e2]; decide)]⟩, ⟨e3, by unfold tuL; rw [if_neg (by rw [e3]; decide)]⟩⟩
theorem tu_yes2 {l : List Int} {s : ByteArray} {i : Int} (h : tuE l s i = 0) : wkE l s = 0 ∧ wE i s = 0 := by
  unfold tuE at h
  split at h
  · rename_i h1; exact ⟨h1, h⟩
  · rename_i h1; exact absurd h h1
theorem turns_yes {l : List Int} {N : Nat} {i to : Int} {s nm : ByteArray} (hU : ∀ n ∈ l, U8 n) (hN : l.length / 16 = N) (h : ck l = 0) :
    (raE (es l N) i s = adE l i s ∧ byB (raL (es l N) i s) = adL l i s) ∧ (rrE (es l N) nm = wkE l nm ∧ byB (rrL (es l N) nm) = rmL l nm) ∧ (rtE (es l N) nm to = tuE l nm to ∧ byB (rtL (es l N) nm to) = tuL l nm to) := by
  have hR := rt_of_ck h
  rw [hN] at hR
  have f1 := fdE_es hR s
  have f2 := fdE_es hR nm
  have e1 : raE (es l N) i s = adE l i s := by unfold raE adE; rw [if_pos h, f1]
  have e2 : rrE (es l N) nm = wkE l nm := by unfold rrE wkE; rw [if_pos h, f2]
  have hk : ¬ (fd l nm).1 < 0 → ∃ k : Nat, (fd l nm).1 = k ∧ k < N ∧ rU (slotL l k) = true ∧ eS (slotL l k) = nm := fun g => hR.yes g
  have hNm : ¬ (fd l nm).1 < 0 → Nm nm := fun g => by
    obtain ⟨k, -, hkN, hu, he⟩ := hk g
    have hu2 := hu
    unfold rU at hu2
    obtain ⟨h1, h2, h3⟩ := of_decide_eq_true hu2
    obtain ⟨-, -, -, q4⟩ := r_good h1 h2 h3
    rw [← he, q4]
    exact h3.2.2.2
  have e3 : rtE (es l N) nm to = tuE l nm to := by
    unfold rtE tuE
    rw [f2]
    have hw : wkE l nm = if (fd l nm).1 < 0 then 60 else 0 := by unfold wkE; rw [if_pos h]
    by_cases g : (fd l nm).1 < 0
    · rw [if_pos g, hw, if_pos g]; rfl
    · rw [if_neg g, hw, if_neg g, if_pos rfl]
      unfold wE
      rw [nm_yes (hNm g)]
  refine ⟨⟨e1, ?_⟩, ⟨e2, ?_⟩, ⟨e3, ?_⟩⟩
  · unfold raL adL
    rw [e1]
    by_cases g : adE l i s = 0
    · rw [if_pos g, if_pos g]; exact by_add hR hU (ad_yes g).2.1
    · rw [if_neg g, if_neg g]; rfl
  · unfold rrL rmL
    rw [e2, f2]
    by_cases g : wkE l nm = 0
    · obtain ⟨-, -, k, h3, h4, h5, -, -⟩ := wk_yes g
      rw [if_pos g, if_pos g, h3, h4]
      rw [hN] at h5
      exact by_remove hR hU h5
    · rw [if_neg g, if_neg g]; rfl
  · unfold rtL tuL
    rw [e3, f2]
    by_cases g : tuE l nm to = 0
    · obtain ⟨g1, g2⟩ := tu_yes2 g
      obtain ⟨-, -, k, h3, h4, h5, h6, h7⟩ := wk_yes g1
      rw [if_pos g, if_pos g, h3, h4]
      rw [hN] at h5
      have e : (es l N)[((k : Int)).toNat]!.2 = nm := by
        show (es l N)[k]!.2 = nm
        rw [es_at l h5]
        exact h7
      rw [e]
      exact by_turn hR hU h5 g2
    · rw [if_neg g, if_neg g]; rfl

set_option maxRecDepth 100000 in
set_option maxHeartbeats 8000000 in
theorem dirsTurns_short (i to : Int) (s nm : ByteArray) (a : Option Addr) (n c : Nat) (l : List Int) (w : World) (h5 : s.size ≤ 500) (h6 : nm.size ≤ 500) (hl : l.length = n) (hn : n ≤ 1500) (hr : Rw w a l) (hc : n ≤ c) (c1 : c ≤ 9223372036854775807) :
    Calls Try.prog 4 #[.slice a n c, .agg #[.int .i64 i, .string s], .string nm, .int .i64 to] w fun e w' => e = .returned (.bool true) ∧ Below w.heap.size w w' := by
  have HK := Lib.hid (fun w => dknown_any w)
  have HL := Lib.hid (fun w => dlong_any a n c w (by omega))
  rw [decide_eq_false (by omega)] at HL
  have HSl := Lib.hid (fun W h => slots_any l a c n W h hl hc c1 (by omega))
  have HA := Lib.hid (fun W h => dadd_any l i s a n c W h hl hc c1 (by omega))
  have HRm := Lib.hid (fun W h => dremove_any l nm a n c W h hl hc c1 (by omega))
  have HTu := Lib.hid (fun W h => dturn_any l nm to a n c W h hl hc c1 (by omega))
  have t1 : decide (500 < (s.size : Int)) = false := by simp; omega
  have t2 : decide (500 < (nm.size : Int)) = false := by simp; omega
  obtain ⟨N, hN⟩ : ∃ N, n / 16 = N := ⟨_, rfl⟩
  rw [hN] at HSl
  have nN : N ≤ 100 := by omega
  obtain ⟨W0, hW0⟩ : ∃ W0, w.alloc (.cells #[.int .i64 i, .string s] 23) = W0 := ⟨_, rfl⟩
  have b0 : Below w.heap.size w W0 := by rw [← hW0]; exact (Below.refl _ _).alloc (Nat.le_refl _) _
  have k0 : Blk W0 w.heap.size 23 #[.int .i64 i, .string s] := by rw [← hW0]; exact Blk.new _ _ _
  have HR0 := Lib.hid (hr.below b0)
  have HW0 := Lib.hid hW0
  have HK0 := Lib.hid k0
  have HB0 := Lib.hid b0
  have v0 : W0.cell? ⟨w.heap.size, 0, none⟩ = some (.int .i64 i) := k0.cell 0
  have v1 : W0.cell? ⟨w.heap.size, 1, none⟩ = some (.string s) := k0.cell 1
  unfold ev at HA
  by_cases hck : ck l = 0
  · obtain ⟨⟨q1, q2⟩, ⟨q3, q4⟩, ⟨q5, q6⟩⟩ := turns_yes (i := i) (to := to) (s := s) (nm := nm) hr.1 (by rw [hl, hN]) hck
    rw [decide_eq_true hck] at HSl
    have hLl := es_len l N
    obtain ⟨L, hL⟩ : ∃ L, es l N = L := ⟨_, rfl⟩
    rw [hL] at HSl q1 q2 q3 q4 q5 q6 hLl
    have HPa := Lib.hid (fun A c W (h : ER W A L) => radd_any L i s A N c W h hLl (by omega))
    have HPr := Lib.hid (fun A c W (h : ER W A L) => rremove_any L nm A N c W h hLl (by omega))
    have HPt := Lib.hid (fun A c W (h : ER W A L) => rturn_any L nm to A N c W h hLl (by omega))
    rw [q1] at HPa
    rw [q3] at HPr
    rw [q5] at HPt
    unfold ev at HPa
    have HBy := Lib.hid (fun (M : List En) A c W (h : ER W A M) (h2 : M.length ≤ c) (h3 : M.length ≤ 20000) => rbytes_any M A M.length c W h rfl h2 h3)
    have hl1 : (raL L i s).length ≤ 20000 := by
      unfold raL adR
      split
      · split
        · rw [List.length_set]; omega
        · rw [List.length_append]; simp; omega
      · exact Nat.zero_le _
    have hl2 : (rrL L nm).length ≤ 20000 := by
      unfold rrL rmR
      split
      · rw [List.length_take, List.length_set]; omega
      · exact Nat.zero_le _
    have hl3 : (rtL L nm to).length ≤ 20000 := by
      unfold rtL
      split
      · rw [List.length_set]; omega
      · exact Nat.zero_le _
    obtain ⟨X, hX⟩ : ∃ X, adL l i s = X := ⟨_, rfl⟩
    obtain ⟨Y, hY⟩ : ∃ X, rmL l nm = X := ⟨_, rfl⟩
    obtain ⟨Z, hZ⟩ : ∃ X, tuL l nm to = X := ⟨_, rfl⟩
    obtain ⟨E1, hE1⟩ : ∃ X, adE l i s = X := ⟨_, rfl⟩
    obtain ⟨E2, hE2⟩ : ∃ X, wkE l nm = X := ⟨_, rfl⟩
    obtain ⟨E3, hE3⟩ : ∃ X, tuE l nm to = X := ⟨_, rfl⟩
    obtain ⟨P1, hP1⟩ : ∃ X, raL L i s = X := ⟨_, rfl⟩
    obtain ⟨P2, hP2⟩ : ∃ X, rrL L nm = X := ⟨_, rfl⟩
    obtain ⟨P3, hP3⟩ : ∃ X, rtL L nm to = X := ⟨_, rfl⟩
    rw [hX, hE1] at HA
    rw [hY, hE2] at HRm
    rw [hZ, hE3] at HTu
    rw [hE1, hP1] at HPa
    rw [hE2, hP2] at HPr
    rw [hE3, hP3] at HPt
    rw [hX, hP1] at q2
    rw [hY, hP2] at q4
    rw [hZ, hP3] at q6
    rw [hP1] at hl1
    rw [hP2] at hl2
    rw [hP3] at hl3
    have Q2 := Lib.hid q2
    have Q4 := Lib.hid q4
    have Q6 := Lib.hid q6
    have HL1 := Lib.hid hl1
    have HL2 := Lib.hid hl2
    have HL3 := Lib.hid hl3
    clear hX hY hZ hE1 hE2 hE3 hP1 hP2 hP3 q1 q2 q3 q4 q5 q6 hl1 hl2 hl3 hL hl hck hW0 hr k0 b0
    go_enter Try.func4, Try.ntmps4
    go_wp2_with fail
    rw [HW0.out]
    refine (HL.out _).mono ?_
    rintro e w' ⟨rfl, rfl⟩
    go_wp2_with fail
    refine (HSl.out _ HR0.out).mono ?_
    rintro e w1 ⟨⟨v, rfl, hown⟩, hb1⟩
    obtain ⟨-, A0, c0, rfl, hc0, hm0, her, -⟩ := own_er hown
    have B1 := Lib.hid hb1
    have ER1 := Lib.hid her
    have v2 : w1.cell? ⟨w.heap.size, 0, none⟩ = some (.int .i64 i) := (hb1.cell (block_lt_of_cell v0)).trans v0
    have v3 : w1.cell? ⟨w.heap.size, 1, none⟩ = some (.string s) := (hb1.cell (block_lt_of_cell v1)).trans v1
    clear v0 v1 hb1 hown her
    go_wp2_with fail
    refine (HA.out _ (HR0.out.below B1.out)).mono ?_
    rintro e w2 ⟨⟨A1, d1, rfl, x1, y1, r1⟩, hb2⟩
    have B2 := Lib.hid (B1.out.trans (hb2.mono B1.out.size))
    have ER2 := Lib.hid (ER1.out.below hb2)
    have R1 := Lib.hid r1
    clear v2 v3 hb2 r1
    go_wp2_with fail
    refine (HRm.out _ (HR0.out.below B2.out)).mono ?_
    rintro e w3 ⟨⟨A2, d2, rfl, x2, y2, r2⟩, hb3⟩
    have B3 := Lib.hid (B2.out.trans (hb3.mono B2.out.size))
    have ER3 := Lib.hid (ER2.out.below hb3)
    have R12 := Lib.hid (R1.out.below hb3)
    have R2 := Lib.hid r2
    clear hb3 r2
    go_wp2_with fail
    refine (HTu.out _ (HR0.out.below B3.out)).mono ?_
    rintro e w4 ⟨⟨A3, d3, rfl, x3, y3, r3⟩, hb4⟩
    have B4 := Lib.hid (B3.out.trans (hb4.mono B3.out.size))
    have ER4 := Lib.hid (ER3.out.below hb4)
    have R13 := Lib.hid (R12.out.below hb4)
    have R23 := Lib.hid (R2.out.below hb4)
    have R3 := Lib.hid r3
    have v0 : w4.cell? ⟨w.heap.size, 0, none⟩ = some (.int .i64 i) := (B4.out.cell (p := ⟨w.heap.size, 0, none⟩) HK0.out.lt).trans (HK0.out.cell 0)
    have v1 : w4.cell? ⟨w.heap.size, 1, none⟩ = some (.string s) := (B4.out.cell (p := ⟨w.heap.size, 1, none⟩) HK0.out.lt).trans (HK0.out.cell 1)
    clear hb4 r3 ER1 ER2 ER3 R12 R1 R2 HSl HA HRm HTu HL HW0
    go_wp2_with fail
    refine (HPa.out _ _ _ ER4.out).mono ?_
    rintro e w5 ⟨⟨A4, d4, rfl, x4, y4, r4⟩, hb5⟩
    have B5 := Lib.hid (B4.out.trans (hb5.mono B4.out.size))
    have ER5 := Lib.hid (ER4.out.below hb5)
    have R4 := Lib.hid r4
    have C5 := Lib.hid hb5
    clear v0 v1 r4 hb5
    go_wp2_with fail
    refine (HPr.out _ _ _ ER5.out).mono ?_
    rintro e w6 ⟨⟨A5, d5, rfl, x5, y5, r5⟩, hb6⟩
    have B6 := Lib.hid (B5.out.trans (hb6.mono B5.out.size))
    have ER6 := Lib.hid (ER5.out.below hb6)
    have R5 := Lib.hid r5
    have C6 := Lib.hid (C5.out.trans (hb6.mono C5.out.size))
    have R46 := Lib.hid (R4.out.below hb6)
    clear r5 hb6 R4
    go_wp2_with fail
    refine (HPt.out _ _ _ ER6.out).mono ?_
    rintro e w7 ⟨⟨A6, d6, rfl, x6, y6, r6⟩, hb7⟩
    have B7 := Lib.hid (B6.out.trans (hb7.mono B6.out.size))
    have C7 := Lib.hid (C6.out.trans (hb7.mono C6.out.size))
    have R47 := Lib.hid (R46.out.below hb7)
    have R57 := Lib.hid (R5.out.below hb7)
    have R6 := Lib.hid r6
    clear r6 hb7 R46 R5 ER4 ER5 ER6 HPa HPr HPt
    have RX := Lib.hid (R13.out.below C7.out)
    have RY := Lib.hid (R23.out.below C7.out)
    have RZ := Lib.hid (R3.out.below C7.out)
    clear R13 R23 R3 C5 C6 C7
    go_wp2_with fail
    refine (HBy.out P1 A4 d4 _ R47.out x4 HL1.out).mono ?_
    rintro e w8 ⟨⟨u, rfl, hown⟩, hb8⟩
    rw [Q2.out] at hown
    obtain ⟨U1, e1, rfl, g1, g2, g3⟩ := Rw.of_own hown RX.out.1
    have B8 := Lib.hid (B7.out.trans (hb8.mono B7.out.size))
    have HS := same_any A1 U1 d1 e1 X.length X.length X X w8 (RX.out.below hb8) g1 rfl rfl
    rw [decide_eq_true rfl] at HS
    have R58 := Lib.hid (R57.out.below hb8)
    have R68 := Lib.hid (R6.out.below hb8)
    have RY8 := Lib.hid (RY.out.below hb8)
    have RZ8 := Lib.hid (RZ.out.below hb8)
    clear hown hb8 g1 g2 R57 R6 RY RZ
    go_wp2_with fail
    refine HS.mono ?_
    rintro e w' ⟨rfl, rfl⟩
    clear HS
    go_wp2_with fail
    refine (HBy.out P2 A5 d5 _ R58.out x5 HL2.out).mono ?_
    rintro e w9 ⟨⟨u, rfl, hown⟩, hb9⟩
    rw [Q4.out] at hown
    obtain ⟨U2, e2, rfl, g1, g2, g4⟩ := Rw.of_own hown RY8.out.1
    have B9 := Lib.hid (B8.out.trans (hb9.mono B8.out.size))
    have HS := same_any A2 U2 d2 e2 Y.length Y.length Y Y w9 (RY8.out.below hb9) g1 rfl rfl
    rw [decide_eq_true rfl] at HS
    have R69 := Lib.hid (R68.out.below hb9)
    have RZ9 := Lib.hid (RZ8.out.below hb9)
    clear hown hb9 g1 g2 R58 R68 RY8 RZ8
    go_wp2_with fail
    refine HS.mono ?_
    rintro e w' ⟨rfl, rfl⟩
    clear HS
    go_wp2_with fail
    refine (HBy.out P3 A6 d6 _ R69.out x6 HL3.out).mono ?_
    rintro e w10 ⟨⟨u, rfl, hown⟩, hb10⟩
    rw [Q6.out] at hown
    obtain ⟨U3, e3, rfl, g1, g2, g5⟩ := Rw.of_own hown RZ9.out.1
    have B10 := Lib.hid (B9.out.trans (hb10.mono B9.out.size))
    have HS := same_any A3 U3 d3 e3 Z.length Z.length Z Z w10 (RZ9.out.below hb10) g1 rfl rfl
    rw [decide_eq_true rfl] at HS
    clear hown hb10 g1 g2 R69 RZ9
    go_wp2_with fail
    refine HS.mono ?_
    rintro e w' ⟨rfl, rfl⟩
    clear HS
    go_wp2_with fail
    refine (HK.out _).mono ?_
    rintro e w11 ⟨rfl, hb11⟩
    go_wp2
    go_ret
    exact ⟨rfl, (HB0.out.trans (B10.out.mono HB0.out.size)).trans (hb11.mono (HB0.out.trans (B10.out.mono HB0.out.size)).size)⟩
  · obtain ⟨⟨q1, q2⟩, ⟨q3, q4⟩, ⟨q5, q6⟩⟩ := turns_no (i := i) (to := to) (s := s) (nm := nm) hck
    rw [decide_eq_false hck] at HSl
    rw [q1, q2] at HA
    rw [q3, q4] at HRm
    rw [q5, q6] at HTu
    clear q1 q2 q3 q4 q5 q6 hl hck hW0 hr k0 b0
    go_enter Try.func4, Try.ntmps4
    go_wp2_with fail
    rw [HW0.out]
    refine (HL.out _).mono ?_
    rintro e w' ⟨rfl, rfl⟩
    go_wp2_with fail
    refine (HSl.out _ HR0.out).mono ?_
    rintro e w1 ⟨⟨v, rfl, -⟩, hb1⟩
    have B1 := Lib.hid hb1
    have v2 : w1.cell? ⟨w.heap.size, 0, none⟩ = some (.int .i64 i) := (hb1.cell (block_lt_of_cell v0)).trans v0
    have v3 : w1.cell? ⟨w.heap.size, 1, none⟩ = some (.string s) := (hb1.cell (block_lt_of_cell v1)).trans v1
    clear v0 v1 hb1
    go_wp2_with fail
    refine (HA.out _ (HR0.out.below B1.out)).mono ?_
    rintro e w2 ⟨⟨A1, d1, rfl, -⟩, hb2⟩
    have B2 := Lib.hid (B1.out.trans (hb2.mono B1.out.size))
    clear v2 v3 hb2
    go_wp2_with fail
    refine (HRm.out _ (HR0.out.below B2.out)).mono ?_
    rintro e w3 ⟨⟨A2, d2, rfl, -⟩, hb3⟩
    have B3 := Lib.hid (B2.out.trans (hb3.mono B2.out.size))
    clear hb3
    go_wp2_with fail
    refine (HTu.out _ (HR0.out.below B3.out)).mono ?_
    rintro e w4 ⟨⟨A3, d3, rfl, -⟩, hb4⟩
    have B4 := Lib.hid (B3.out.trans (hb4.mono B3.out.size))
    clear hb4
    go_wp2_with fail
    refine (HK.out _).mono ?_
    rintro e w11 ⟨rfl, hb11⟩
    go_wp2
    go_ret
    exact ⟨rfl, (HB0.out.trans (B4.out.mono HB0.out.size)).trans (hb11.mono (HB0.out.trans (B4.out.mono HB0.out.size)).size)⟩

set_option maxRecDepth 100000 in
set_option maxHeartbeats 2000000 in
theorem dirsTurns_long (i to : Int) (s nm : ByteArray) (a : Option Addr) (n c : Nat) (w : World) (n1 : n ≤ 9223372036854775807) (s1 : s.size ≤ 9223372036854775807) (s2 : nm.size ≤ 9223372036854775807) (h : ¬ (n ≤ 1500 ∧ s.size ≤ 500 ∧ nm.size ≤ 500)) :
    Calls Try.prog 4 #[.slice a n c, .agg #[.int .i64 i, .string s], .string nm, .int .i64 to] w fun e w' => e = .returned (.bool true) ∧ Below w.heap.size w w' := by
  have HK := Lib.hid (fun w => dknown_any w)
  have HL := Lib.hid (fun w => dlong_any a n c w n1)
  have B1 := Lib.hid ((Below.refl w.heap.size w).alloc (Nat.le_refl _) (.cells #[.int .i64 i, .string s] 23))
  by_cases h0 : 1500 < n
  · rw [decide_eq_true h0] at HL
    clear h h0
    go_enter Try.func4, Try.ntmps4
    go_wp2_with fail
    refine (HL.out _).mono ?_
    rintro e w' ⟨rfl, rfl⟩
    go_wp2_with fail
    refine (HK.out _).mono ?_
    rintro e w2 ⟨rfl, hb2⟩
    go_wp2
    go_ret
    exact ⟨rfl, B1.out.trans (hb2.mono B1.out.size)⟩
  · rw [decide_eq_false h0] at HL
    by_cases h1 : 500 < s.size
    · have t1 : decide (500 < (s.size : Int)) = true := by simp; omega
      clear h h0 h1
      go_enter Try.func4, Try.ntmps4
      go_wp2_with fail
      refine (HL.out _).mono ?_
      rintro e w' ⟨rfl, rfl⟩
      go_wp2_with fail
      refine (HK.out _).mono ?_
      rintro e w2 ⟨rfl, hb2⟩
      go_wp2
      go_ret
      exact ⟨rfl, B1.out.trans (hb2.mono B1.out.size)⟩
    · have t1 : decide (500 < (s.size : Int)) = false := by simp; omega
      have t2 : decide (500 < (nm.size : Int)) = true := by simp; omega
      clear h h0 h1
      go_enter Try.func4, Try.ntmps4
      go_wp2_with fail
      refine (HL.out _).mono ?_
      rintro e w' ⟨rfl, rfl⟩
      go_wp2_with fail
      refine (HK.out _).mono ?_
      rintro e w2 ⟨rfl, hb2⟩
      go_wp2
      go_ret
      exact ⟨rfl, B1.out.trans (hb2.mono B1.out.size)⟩

theorem dirsTurns_walk (a : Option Addr) (len cap : Nat) (z : List Int) (i : Int) (s nm : ByteArray) (to : Int) (w : World) (hz : Row8 w a len cap z) (_w0 : (Lit.int .i64 i).wf = true) (ws : s.size ≤ maxLen) (wn : nm.size ≤ maxLen) (_w3 : (Lit.int .i64 to).wf = true) :
    Calls Try.prog 4 #[.slice a len cap, .agg #[.int .i64 i, .string s], .string nm, .int .i64 to] w fun e w' => e = .returned (.bool true) ∧ Below w.heap.size w w' := by
  have c1 : cap ≤ 9223372036854775807 := by
    rcases hz with ⟨_, _, rfl, _⟩ | ⟨_, _, _, h, _⟩
    · omega
    · unfold maxLen at h; omega
  obtain ⟨n, hl, hc, hr, -⟩ := hz.rw
  unfold maxLen at ws wn
  by_cases h : len ≤ 1500 ∧ s.size ≤ 500 ∧ nm.size ≤ 500
  · exact dirsTurns_short i to s nm a len cap n w h.2.1 h.2.2 hl h.1 hr hc c1
  · exact dirsTurns_long i to s nm a len cap w (by omega) (by omega) (by omega) h

end Go.Proofs.Ytbgimehbencdgaa
