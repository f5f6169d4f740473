/-
  The law EccRows.
-/
import Derived.Test.YtdcpbbfaakddaaaEccCodesW
import Derived.Test.YtdcpbbfaakddaaaEccAllW
import Derived.Test.YtdcpbbfaakddaaaEccRefAllW
import Derived.Lib.SliceRun
import Derived.Laws.StructEq
namespace Go.Proofs.Ytdcpbbfaakddaaa
open Go.RowKit Crcm Tagm Eccm Go.ChangeShapes

theorem clone_nil (w : World) : Calls Try.prog 28 #[.slice none 0 0] w fun e w' => e = .returned (.slice none 0 0) ∧ w = w' := by
  have en := fun W a n c => Lib.run_eql_slice_nil (P := Try.prog) W 22 5 a n c 0 0 Try.underlying22
  go_enter Try.func28, Try.ntmps28
  go_wp2
  go_ret
  exact ⟨rfl, rfl⟩
theorem clone_zero (ad : Addr) (c : Nat) (w : World) : Calls Try.prog 28 #[.slice (some ad) 0 c] w fun e w' => (∃ A cc, e = .returned (.slice A 0 cc)) ∧ Below w.heap.size w w' := by
  have en := fun W a n c => Lib.run_eql_slice_nil (P := Try.prog) W 22 5 a n c 0 0 Try.underlying22
  have hown : Hid ((w.alloc (.cells #[] 5)).ownsRow w.heap.size 5 1 (.slice (some ⟨w.heap.size, 0, none⟩) 0 0) 0 (([] : List Int).map (Value.int .u8))) := Lib.hid (World.ownsRow_lit w #[] 0 (Nat.le_refl _) (Nat.zero_le _) rfl)
  have hbx : Below w.heap.size w (w.alloc (.cells #[] 5)) := (Below.refl _ _).alloc (Nat.le_refl _) _
  have HBX := Lib.hid hbx
  clear hbx
  go_enter Try.func28, Try.ntmps28
  go_wp2_with (at_builtin; refine append_bytes rfl _ _ rfl w.heap.size _ 0 [] rfl hown.out (some ad) 0 c [] rfl rfl (.inr ⟨_, rfl, fun j hj => absurd hj (Nat.not_lt_zero _)⟩) (by omega) (by simp) ?_)
  intro v' w2 hown2 hb2
  have HB2 := Lib.hid (HBX.out.trans hb2)
  obtain ⟨a2, cap2, rfl, hrw, hlen, hcap⟩ := Rw.of_own (zs := []) hown2 (fun m hm => absurd hm (List.not_mem_nil))
  clear hown2 hb2 hrw hlen
  go_wp2
  go_ret
  exact ⟨⟨a2, cap2, rfl⟩, HB2.out⟩
/-- a copy of any bytes -/
theorem clone_own (a : Option Addr) (L c : Nat) (l : List Int) (hl : l.length = L) (hn : L ≤ 900) (ha : a = none → L = 0 ∧ c = 0) (w : World) (hr : Rw w a l) :
    Calls Try.prog 28 #[.slice a L c] w fun e w' => (∃ A cc, e = .returned (.slice A L cc) ∧ L ≤ cc ∧ (L = 0 ∨ ∃ g, A = some ⟨g, 0, none⟩ ∧ w'.ownsRow w.heap.size 5 1 (.slice (some ⟨g, 0, none⟩) L cc) L (l.map (Value.int .u8)))) ∧ Below w.heap.size w w' := by
  rcases a with _ | ⟨b, off, sp⟩
  · obtain ⟨rfl, rfl⟩ := ha rfl
    refine (clone_nil w).mono ?_
    rintro e w' ⟨rfl, rfl⟩
    exact ⟨⟨none, 0, rfl, Nat.le_refl _, .inl rfl⟩, Below.refl _ _⟩
  · by_cases h0 : L = 0
    · subst h0
      refine (clone_zero _ c w).mono ?_
      rintro e w' ⟨⟨A, cc, rfl⟩, hb⟩
      exact ⟨⟨A, cc, rfl, Nat.zero_le _, .inl rfl⟩, hb⟩
    · obtain ⟨b', off', e⟩ := hr.addr (by omega)
      injection e with e
      injection e with e1 e2 e3
      subst e1 e2 e3
      refine (bclone_any L c b off l w hr hl ⟨by omega, by omega⟩).mono ?_
      rintro e w' ⟨⟨g, cc, rfl, hcc, hg, hO⟩, hb⟩
      exact ⟨⟨_, cc, rfl, hcc, .inr ⟨g, rfl, hO⟩⟩, hb⟩

/-- what both answer of codes -/
def Cd (e : Ending) (w : World) (Y : List Int) (E : Int) : Prop := ∃ A cap, e = .returned (.tuple #[.slice A Y.length cap, .int .i64 E]) ∧ Rw w A Y
def Fx (e : Ending) (w : World) (Y : List Int) (k0 k1 k2 k3 E : Int) : Prop := ∃ A cap, e = .returned (.tuple #[.slice A Y.length cap, .agg #[.int .i64 k0, .int .i64 k1, .int .i64 k2, .int .i64 k3], .int .i64 E]) ∧ Rw w A Y
theorem at_of {a : Option Addr} {L : Nat} {l : List Int} {w : World} (hr : Rw w a l) (hl : l.length = L) : ∃ b off, L = 0 ∨ a = some ⟨b, off, none⟩ := by
  rcases Nat.eq_zero_or_pos L with h | h
  · exact ⟨0, 0, .inl h⟩
  · obtain ⟨b, off, e⟩ := hr.addr (by omega)
    exact ⟨b, off, .inr e⟩
theorem codes_two (a : Option Addr) (L c : Nat) (N : Int) (l : List Int) (w : World) (hr : Rw w a l) (hl : l.length = L) (hL : L ≤ 900) (hLc : L ≤ c) (hc : c ≤ 9223372036854775807) :
    ∃ (Y : List Int) (E : Int), (Calls Try.prog 16 #[.slice a L c, .int .i64 N] w fun e w' => Cd e w' Y E ∧ Below w.heap.size w w') ∧
      ∀ w', Rw w' a l → Calls Try.prog 17 #[.slice a L c, .int .i64 N] w' fun e w'' => Cd e w'' Y E ∧ Below w'.heap.size w' w'' := by
  by_cases h : 1 ≤ N ∧ N ≤ 4096
  · obtain ⟨n, rfl⟩ : ∃ n : Nat, N = n := ⟨N.toNat, by omega⟩
    obtain ⟨b, off, ha⟩ := at_of hr hl
    refine ⟨cl l n (List.range (nbk L n)), 0, (codes_yes b off a L c n l w hr hl ha hL hLc (by omega) (by omega)).mono ?_, fun w' hr' => (rcodes_yes b off a L c n l w' hr' hl ha hL hLc hc (by omega) (by omega)).mono ?_⟩
    · rintro e w' ⟨⟨A, cap, rfl, hR⟩, hb⟩; exact ⟨⟨A, cap, by rw [cl_length, List.length_range], hR⟩, hb⟩
    · rintro e w' ⟨⟨A, cap, rfl, hR⟩, hb⟩; exact ⟨⟨A, cap, by rw [cl_length, List.length_range], hR⟩, hb⟩
  · refine ⟨[], 1, (codes_no a L c N w (by unfold maxLen; omega) (by omega)).mono ?_, fun w' _ => (rcodes_no a L c N w' (by unfold maxLen; omega) (by omega)).mono ?_⟩
    · rintro e w' ⟨rfl, rfl⟩; exact ⟨⟨none, 0, rfl, Rw.nil⟩, Below.refl _ _⟩
    · rintro e w' ⟨rfl, rfl⟩; exact ⟨⟨none, 0, rfl, Rw.nil⟩, Below.refl _ _⟩
theorem mall_two (a d : Option Addr) (L c q s : Nat) (N : Int) (l z : List Int) (w : World) (hr : Rw w a l) (hl : l.length = L) (hz : Rw w d z) (hzl : z.length = q) (hL : L ≤ 900) (hLc : L ≤ c) (hc : c ≤ 9223372036854775807) (hqs : q ≤ s) (hs : s ≤ 9223372036854775807) (ha0 : a = none → L = 0 ∧ c = 0) :
    ∃ (Y : List Int) (k0 k1 k2 k3 E : Int), (Calls Try.prog 18 #[.slice a L c, .int .i64 N, .slice d q s] w fun e w' => Fx e w' Y k0 k1 k2 k3 E ∧ Below w.heap.size w w') ∧
      ∀ w', Rw w' a l → Rw w' d z → Calls Try.prog 19 #[.slice a L c, .int .i64 N, .slice d q s] w' fun e w'' => Fx e w'' Y k0 k1 k2 k3 E ∧ Below w'.heap.size w' w'' := by
  by_cases h : 1 ≤ N ∧ N ≤ 4096
  · obtain ⟨n, rfl⟩ : ∃ n : Nat, N = n := ⟨N.toNat, by omega⟩
    obtain ⟨b, off, ha⟩ := at_of hr hl
    by_cases hq : q = 4 * nbk L n
    · subst hq
      have hLM : L ≤ nbk L n * n := by
        rcases Nat.lt_or_ge (nbk L n * n) L with h1 | h1
        · have := (nbk_lt (L := L) (n := n) (i := nbk L n) (by omega)).2 h1; omega
        · exact h1
      have hfs : (fs z n l (List.range (nbk L n))).1 = pcs z n l (nbk L n) := by
        rw [(fs_range z n l (by omega) (nbk L n) (fun i hi => by rw [hl]; exact (nbk_lt (by omega)).1 hi)).1]
        show pcs z n l (nbk L n) ++ l.drop (nbk L n * n) = _
        rw [List.drop_of_length_le (by omega), List.append_nil]
      have hpl : (pcs z n l (nbk L n)).length = L := by rw [← hfs, (fs_len z n l _ hr.1).1, hl]
      refine ⟨pcs z n l (nbk L n), (cnt (kis z n l (nbk L n)) 0 : Nat), (cnt (kis z n l (nbk L n)) 1 : Nat), (cnt (kis z n l (nbk L n)) 2 : Nat), (cnt (kis z n l (nbk L n)) 3 : Nat), 0, (mall_yes a d L c s n (nbk L n) l z w hr hl hz hzl rfl hL (by omega) (by omega) hqs hs (Lib.hid fun w' hr' => clone_own a L c l hl hL ha0 w' hr')).mono ?_, fun w' hr' hz' => (rmall_yes b off a d L c s n (nbk L n) l z w' hr' hl hz' hzl ha rfl hL hLc hc (by omega) (by omega) hqs).mono ?_⟩
      · rintro e w' ⟨⟨A, cc, rfl, hR⟩, hb⟩
        rw [hfs] at hR
        exact ⟨⟨A, cc, by rw [hpl], hR⟩, hb⟩
      · rintro e w' ⟨⟨A, m, cc, rfl, rfl, hR⟩, hb⟩
        exact ⟨⟨A, cc, rfl, hR⟩, hb⟩
    · refine ⟨[], 0, 0, 0, 0, 1, (mall_len a d L c q s n _ w (Lib.hid fun w => row_yes a L c n w (by omega) (by omega) (by omega)) (Lib.hid fun w => csize_any a L c n w (by omega) (by omega) (by omega)) hq).mono ?_, fun w' hr' _ => (rmall_len b off a d L c q s n _ w' ha rfl hL hLc hc (by omega) (by omega) hq).mono ?_⟩
      · rintro e w' ⟨rfl, hb⟩; exact ⟨⟨none, 0, rfl, Rw.nil⟩, hb⟩
      · rintro e w' ⟨rfl, hb⟩; exact ⟨⟨none, 0, rfl, Rw.nil⟩, hb⟩
  · refine ⟨[], 0, 0, 0, 0, 1, (mall_no a d L c q s N w (Lib.hid fun w => row_no a L c N w (by unfold maxLen; omega) (by omega))).mono ?_, fun w' _ _ => (rmall_no a d L c q s N w' (by unfold maxLen; omega) (by omega)).mono ?_⟩
    · rintro e w' ⟨rfl, hb⟩; exact ⟨⟨none, 0, rfl, Rw.nil⟩, hb⟩
    · rintro e w' ⟨rfl, hb⟩; exact ⟨⟨none, 0, rfl, Rw.nil⟩, hb⟩

set_option maxRecDepth 100000 in
set_option maxHeartbeats 1000000 in
theorem eccRows_walk (a : Option Addr) (L c : Nat) (zl : List Int) (N : Int) (d : Option Addr) (q s : Nat) (zd : List Int) (w : World) (h0 : Row8 w a L c zl) (w1 : (Lit.int .i64 N).wf = true) (h2 : Row8 w d q s zd) :
    Calls Try.prog 5 #[.slice a L c, .int .i64 N, .slice d q s] w fun e w' => e = .returned (.bool true) ∧ Below w.heap.size w w' := by
  obtain ⟨l, hl, hLc, hr, -⟩ := h0.rw
  obtain ⟨z, hzl, hqs, hz, -⟩ := h2.rw
  have hn := bounds_i64 w1
  have hL9 : L ≤ 9223372036854775807 := by have := hr.2.1; unfold maxLen at this; omega
  have hq9 : q ≤ 9223372036854775807 := by have := hz.2.1; unfold maxLen at this; omega
  have hc9 : c ≤ 9223372036854775807 := by
    rcases h0 with ⟨-, -, rfl, -⟩ | ⟨x, -, -, hm, -⟩
    · omega
    · unfold maxLen at hm; omega
  have hs9 : s ≤ 9223372036854775807 := by
    rcases h2 with ⟨-, -, rfl, -⟩ | ⟨x, -, -, hm, -⟩
    · omega
    · unfold maxLen at hm; omega
  have ha0 : a = none → L = 0 ∧ c = 0 := by
    rcases h0 with ⟨-, h, h', -⟩ | ⟨x, rfl, -⟩
    · exact fun _ => ⟨h, h'⟩
    · intro e; cases e
  clear h0 h2 w1
  by_cases hg1 : 900 < L
  · clear hr hz hn hc9 hs9 ha0
    go_enter Try.func5, Try.ntmps5
    go_wp2_with fail
    refine (known_any w).mono ?_
    rintro e w2 ⟨rfl, hb⟩
    go_wp2
    go_ret
    exact ⟨rfl, hb⟩
  · have f1 : decide ((900 : Int) < (L : Int)) = false := by simp; omega
    by_cases hg2 : 4000 < q
    · have f2 : decide ((4000 : Int) < (q : Int)) = true := by simp; omega
      clear hr hz hn hc9 hs9 ha0
      go_enter Try.func5, Try.ntmps5
      go_wp2_with fail
      refine (known_any w).mono ?_
      rintro e w2 ⟨rfl, hb⟩
      go_wp2
      go_ret
      exact ⟨rfl, hb⟩
    · have f2 : decide ((4000 : Int) < (q : Int)) = false := by simp; omega
      by_cases hg3 : 4096 < N ∧ N < 1099511627776
      · have f3 : decide ((4096 : Int) < N) = true := by simp; omega
        have f4 : decide (N < (1099511627776 : Int)) = true := by simp; omega
        clear hr hz hn hc9 hs9 ha0 hg3
        go_enter Try.func5, Try.ntmps5
        go_wp2_with fail
        refine (known_any w).mono ?_
        rintro e w2 ⟨rfl, hb⟩
        go_wp2
        go_ret
        exact ⟨rfl, hb⟩
      · have f4 : decide ((4096 : Int) < N ∧ N < 1099511627776) = false := decide_eq_false hg3
        obtain ⟨Y, E, hc1, hc2⟩ := codes_two a L c N l w hr hl (by omega) hLc hc9
        have HC1 := Lib.hid hc1
        have HC2 := Lib.hid hc2
        have HR := Lib.hid hr
        have HZ := Lib.hid hz
        have HM := Lib.hid fun (w : World) (hr : Rw w a l) (hz : Rw w d z) => mall_two a d L c q s N l z w hr hl hz hzl (by omega) hLc hc9 hqs hs9 ha0
        have f3 : decide ((4096 : Int) < N) = true → decide (N < (1099511627776 : Int)) = false := fun h => by
          have := of_decide_eq_true h
          exact decide_eq_false (by omega)
        have hcase : decide ((4096 : Int) < N) = false ∨ (decide ((4096 : Int) < N) = true ∧ decide (N < (1099511627776 : Int)) = false) := by
          rcases hb : decide ((4096 : Int) < N) with _ | _
          · exact .inl rfl
          · exact .inr ⟨rfl, f3 hb⟩
        clear hc1 hc2 hr hz hn hc9 hs9 ha0 hg3 f3 f4
        rcases hcase with g1 | ⟨g1, g2⟩
        all_goals
          go_enter Try.func5, Try.ntmps5
          go_wp2_with fail
          refine HC1.out.mono ?_
          rintro e w2 ⟨⟨A2, c2, rfl, hA2⟩, hb2⟩
          have HA2 := Lib.hid hA2
          have HB2 := Lib.hid hb2
          clear hA2 hb2
          go_wp2_with fail
          refine (HC2.out w2 (HR.out.below HB2.out)).mono ?_
          rintro e w3 ⟨⟨A3, c3, rfl, hA3⟩, hb3⟩
          have HA3 := Lib.hid hA3
          have HA2b := Lib.hid (HA2.out.below hb3)
          have HB3 := Lib.hid (bon HB2.out hb3)
          clear hA3 hb3 HA2 HB2
          obtain ⟨Y2, k0, k1, k2, k3, E2, hm1, hm2⟩ := HM.out w3 (HR.out.below HB3.out) (HZ.out.below HB3.out)
          have HM1 := Lib.hid hm1
          have HM2 := Lib.hid hm2
          clear hm1 hm2
          go_wp2_with fail
          refine HM1.out.mono ?_
          rintro e w4 ⟨⟨A4, c4, rfl, hA4⟩, hb4⟩
          have HA4 := Lib.hid hA4
          have HB4 := Lib.hid (bon HB3.out hb4)
          have HA24 := Lib.hid (HA2b.out.below hb4)
          have HA34 := Lib.hid (HA3.out.below hb4)
          clear hA4 hb4 HA2b HA3 HB3
          go_wp2_with fail
          have hal : Below w4.heap.size w4 (w4.alloc (.cells #[.int .i64 k0, .int .i64 k1, .int .i64 k2, .int .i64 k3] 36)) := (Below.refl _ _).alloc (Nat.le_refl _) _
          have hbk := Blk.new w4 36 #[.int .i64 k0, .int .i64 k1, .int .i64 k2, .int .i64 k3]
          obtain ⟨G, hG⟩ : ∃ G, w4.heap.size = G := ⟨_, rfl⟩
          obtain ⟨Wd, hWd⟩ : ∃ Wd, w4.alloc (.cells #[.int .i64 k0, .int .i64 k1, .int .i64 k2, .int .i64 k3] 36) = Wd := ⟨_, rfl⟩
          rw [hWd] at hal hbk ⊢
          rw [hG] at hbk ⊢
          have HAL := Lib.hid (bon HB4.out hal)
          have hq := HM2.out Wd (HR.out.below HAL.out) (HZ.out.below HAL.out)
          have HQ := Lib.hid hq
          have HA4d := Lib.hid (HA4.out.below hal)
          have HA2d := Lib.hid (HA24.out.below hal)
          have HA3d := Lib.hid (HA34.out.below hal)
          have HBK := Lib.hid hbk
          clear hq hal hbk hWd hG HA24 HA34 HA4 HB4 HM2
          refine HQ.out.mono ?_
          rintro e w6 ⟨⟨A6, c6, rfl, hA6⟩, hb6⟩
          have hal6 : Below w6.heap.size w6 (w6.alloc (.cells #[.int .i64 k0, .int .i64 k1, .int .i64 k2, .int .i64 k3] 39)) := (Below.refl _ _).alloc (Nat.le_refl _) _
          have hb67 := bon hb6 hal6
          have hbk7 := (HBK.out.below hb6 HBK.out.lt).alloc (.cells #[.int .i64 k0, .int .i64 k1, .int .i64 k2, .int .i64 k3] 39)
          have hbn7 := Blk.new w6 39 #[.int .i64 k0, .int .i64 k1, .int .i64 k2, .int .i64 k3]
          have hs1 := same_any A2 A3 c2 c3 Y.length Y.length Y Y _ (HA2d.out.below hb67) (HA3d.out.below hb67) rfl rfl
          have hs2 := same_any A4 A6 c4 c6 Y2.length Y2.length Y2 Y2 _ (HA4d.out.below hb67) (hA6.below hal6) rfl rfl
          rw [decide_eq_true rfl] at hs1 hs2
          have HB7 := Lib.hid (bon HAL.out hb67)
          obtain ⟨H, hH⟩ : ∃ H, w6.heap.size = H := ⟨_, rfl⟩
          obtain ⟨W7, hW7⟩ : ∃ W7, w6.alloc (.cells #[.int .i64 k0, .int .i64 k1, .int .i64 k2, .int .i64 k3] 39) = W7 := ⟨_, rfl⟩
          rw [hW7] at hbk7 hbn7 hs1 hs2 HB7
          rw [hH] at hbn7
          have HS1 := Lib.hid hs1
          have HS2 := Lib.hid hs2
          have x0 : W7.cell? ⟨G, 0, none⟩ = some (.int .i64 k0) := hbk7.cell 0
          have x1 : W7.cell? ⟨G, 1, none⟩ = some (.int .i64 k1) := hbk7.cell 1
          have x2 : W7.cell? ⟨G, 2, none⟩ = some (.int .i64 k2) := hbk7.cell 2
          have x3 : W7.cell? ⟨G, 3, none⟩ = some (.int .i64 k3) := hbk7.cell 3
          have y0 : W7.cell? ⟨H, 0, none⟩ = some (.int .i64 k0) := hbn7.cell 0
          have y1 : W7.cell? ⟨H, 1, none⟩ = some (.int .i64 k1) := hbn7.cell 1
          have y2 : W7.cell? ⟨H, 2, none⟩ = some (.int .i64 k2) := hbn7.cell 2
          have y3 : W7.cell? ⟨H, 3, none⟩ = some (.int .i64 k3) := hbn7.cell 3
          clear hal6 hb67 hbk7 hbn7 hs1 hs2 hb6 hA6 HA2d HA3d HA4d HBK HAL
          go_wp2_with fail
          clear hW7 hH
          refine HS1.out.mono ?_
          rintro e w8 ⟨rfl, rfl⟩
          go_wp2_with fail
          refine HS2.out.mono ?_
          rintro e w8 ⟨rfl, rfl⟩
          go_wp2_with fail
          refine (known_any W7).mono ?_
          rintro e w9 ⟨rfl, hb9⟩
          go_wp2
          go_ret
          exact ⟨rfl, bon HB7.out hb9⟩
end Go.Proofs.Ytdcpbbfaakddaaa
