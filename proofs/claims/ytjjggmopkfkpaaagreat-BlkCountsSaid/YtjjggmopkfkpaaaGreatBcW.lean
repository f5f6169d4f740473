/-
  What is needed of a manager's blocks is counted: the law BlkCounts (made by gen_bcw.py).
-/
import Derived.Test.YtjjggmopkfkpaaaGreatBcM
import Derived.Test.YtjjggmopkfkpaaaGreatLG
import Derived.Test.YtjjggmopkfkpaaaGreatLF
import Derived.Test.YtjjggmopkfkpaaaGreatKR
namespace Go.Proofs.YtjjggmopkfkpaaaGreat
open Go.RowKit Crcm Gcm Go.ChangeShapes

set_option maxRecDepth 100000 in
set_option maxHeartbeats 8000000 in
theorem blkCounts_core (s : Su) (a : Sa) (ao : Option Addr) (m co : Nat) (ol : List Bo) (w : World) (hs : SuAt w s a) (ho : RoB w ao ol) (hm : ol.length = m) :
    Calls Tryz.prog 3 #[.agg (suC s a), .slice ao m co] w fun e w' => e = .returned (.bool true) ∧ Below w.heap.size w w' := by
  have HLong := Lib.hid (fun W (hb : Below w.heap.size w W) => slong_any s a ao m co ol W (hs.below hb) (ho.below hb) hm)
  have HBoth := Lib.hid (fun W (hb : Below w.heap.size w W) (hf : SuFew s) => sboth_any s a W (hs.below hb) hf)
  have HKn := Lib.hid (fun W => knownB_any W)
  have HOl := Lib.hid ho
  have HM := Lib.hid hm
  have HB := Lib.hid ((Below.refl w.heap.size w).alloc (Nat.le_refl _) (.cells (suC s a) 28))
  have HBk := Lib.hid (Blk.new w 28 (suC s a))
  obtain ⟨x0, x1, x2, a3, n3, c3, a4, n4, c4, a5, n5, c5, a6, n6, c6, x7, x8, hcs⟩ : ∃ x0 x1 x2 a3 n3 c3 a4 n4 c4 a5 n5 c5 a6 n6 c6 x7 x8, suC s a = #[.int .i64 x0, .int .i64 x1, .int .i64 x2, .slice a3 n3 c3, .slice a4 n4 c4, .slice a5 n5 c5, .slice a6 n6 c6, .int .i64 x7, .int .i64 x8] := ⟨_, _, _, _, _, _, _, _, _, _, _, _, _, _, _, _, _, rfl⟩
  have HX1 : Hid (x1 = s.y) := Lib.hid (by
    have h9 := congrArg (fun z : Array Value => z[1]?) hcs
    simp [suC] at h9
    exact h9.symm)
  rw [hcs] at HLong HBoth HB HBk ⊢
  clear hs ho hm hcs
  go_enter Tryz.func3, Tryz.ntmps3
  go_upto_region 1 with (fail)
  generalize (w.alloc (.cells #[.int .i64 x0, .int .i64 x1, .int .i64 x2, .slice a3 n3 c3, .slice a4 n4 c4, .slice a5 n5 c5, .slice a6 n6 c6, .int .i64 x7, .int .i64 x8] 28)) = w1 at HB HBk ⊢
  obtain ⟨g, hg⟩ : ∃ g, w.heap.size = g := ⟨_, rfl⟩
  have HGw := Lib.hid hg.symm
  rw [hg] at HBk ⊢
  clear hg
  have q0 : w1.cell? ⟨g, 0, none⟩ = some (.int .i64 x0) := HBk.out.cell 0
  have q1 : w1.cell? ⟨g, 1, none⟩ = some (.int .i64 x1) := HBk.out.cell 1
  have q2 : w1.cell? ⟨g, 2, none⟩ = some (.int .i64 x2) := HBk.out.cell 2
  have q3 : w1.cell? ⟨g, 3, none⟩ = some (.slice a3 n3 c3) := HBk.out.cell 3
  have q4 : w1.cell? ⟨g, 4, none⟩ = some (.slice a4 n4 c4) := HBk.out.cell 4
  have q5 : w1.cell? ⟨g, 5, none⟩ = some (.slice a5 n5 c5) := HBk.out.cell 5
  have q6 : w1.cell? ⟨g, 6, none⟩ = some (.slice a6 n6 c6) := HBk.out.cell 6
  have q7 : w1.cell? ⟨g, 7, none⟩ = some (.int .i64 x7) := HBk.out.cell 7
  have q8 : w1.cell? ⟨g, 8, none⟩ = some (.int .i64 x8) := HBk.out.cell 8
  go_wp2_with fail
  refine (HLong.out _ HB.out).mono ?_
  rintro e w2 ⟨he, hb2⟩
  have HB2 := Lib.hid (HB.out.trans (hb2.mono HB.out.size))
  have HBk2 := Lib.hid (HBk.out.below hb2 HBk.out.lt)
  clear q0 q1 q2 q3 q4 q5 q6 q7 q8 hb2
  rcases he with ⟨rfl, hfew, hm9, hb9⟩ | rfl
  case inr =>
    go_wp2_with fail
    refine (HKn.out _).mono ?_
    rintro e w' ⟨rfl, hb9⟩
    have HB9 := Lib.hid (HB2.out.trans (hb9.mono HB2.out.size))
    clear hb9
    go_wp2
    go_ret
    exact ⟨rfl, HB9.out⟩
  have HFew := Lib.hid hfew
  have hm90 : m ≤ 9000 := by rw [← HM.out]; exact hm9
  clear hfew hm9 hb9 HLong
  have q0 : w2.cell? ⟨g, 0, none⟩ = some (.int .i64 x0) := HBk2.out.cell 0
  have q1 : w2.cell? ⟨g, 1, none⟩ = some (.int .i64 x1) := HBk2.out.cell 1
  have q2 : w2.cell? ⟨g, 2, none⟩ = some (.int .i64 x2) := HBk2.out.cell 2
  have q3 : w2.cell? ⟨g, 3, none⟩ = some (.slice a3 n3 c3) := HBk2.out.cell 3
  have q4 : w2.cell? ⟨g, 4, none⟩ = some (.slice a4 n4 c4) := HBk2.out.cell 4
  have q5 : w2.cell? ⟨g, 5, none⟩ = some (.slice a5 n5 c5) := HBk2.out.cell 5
  have q6 : w2.cell? ⟨g, 6, none⟩ = some (.slice a6 n6 c6) := HBk2.out.cell 6
  have q7 : w2.cell? ⟨g, 7, none⟩ = some (.int .i64 x7) := HBk2.out.cell 7
  have q8 : w2.cell? ⟨g, 8, none⟩ = some (.int .i64 x8) := HBk2.out.cell 8
  go_wp2_with fail
  refine (HBoth.out _ HB2.out HFew.out).mono ?_
  rintro e w3 ⟨hb3, hcase⟩
  have HB3 := Lib.hid (HB2.out.trans (hb3.mono HB2.out.size))
  have HBk3 := Lib.hid (HBk2.out.below hb3 HBk2.out.lt)
  clear q0 q1 q2 q3 q4 q5 q6 q7 q8 HBk HB HFew HBoth
  rcases hcase with rfl | ⟨X, M, m0, o, c, r, q, rfl, hpr, hxlo, hxhi, hgeo, hok, hcs, hml, hM⟩
  case inl =>
    clear hb3
    go_wp2_with fail
    refine (HKn.out _).mono ?_
    rintro e w' ⟨rfl, hb9⟩
    have HB9 := Lib.hid (HB3.out.trans (hb9.mono HB3.out.size))
    clear hb9
    go_wp2
    go_ret
    exact ⟨rfl, HB9.out⟩
  have hg2 := HBk2.out.lt
  obtain ⟨nb, hnb⟩ : ∃ nb, c.nb = nb := ⟨_, rfl⟩
  obtain ⟨np, hnp⟩ : ∃ np, c.np = np := ⟨_, rfl⟩
  have hw0 : Wr c 0 := by
    obtain ⟨_, _, hcs⟩ := hcs
    intro j
    rw [hcs]
    exact ⟨by show (0 : Int) ≤ 0; omega, by show (0 : Int) ≤ 0; omega⟩
  have HC0 : Hid (CtX w M m0 o nb np r q X g #[.int .i64 x0, .int .i64 x1, .int .i64 x2, .slice a3 n3 c3, .slice a4 n4 c4, .slice a5 n5 c5, .slice a6 n6 c6, .int .i64 x7, .int .i64 x8] m0.l c 0 w3) := Lib.hid ⟨hpr, by rw [hml, ← hnp]; exact rows_ic hok.2.2, hw0, hnb, hnp, fun b hb => by have := hxlo b hb; have := HGw.out; omega, HBk3.out, HGw.out, HB3.out⟩
  have ex1 : x1 = np := by rw [HX1.out, ← hgeo.2.1, hnp]
  subst ex1
  have hop : o.p = .pointer (some ⟨o.bc, 0, none⟩) := rfl
  rw [hop]
  have HAl := Lib.hid (ct_all HC0.out (by omega))
  clear hb3 hpr hxlo hxhi hgeo hok hcs hml hM hnb hnp hw0 hop HB2 HB3 HBk2 HBk3 HX1 hg2
  go_wp2_with fail
  refine HAl.out.mono ?_
  rintro e w4 ⟨gg, cap, lw, rfl, hrg, hlen, hsum, hcnt, hrt, hb4⟩
  have HLv := Lib.hid (refLive_any lw (some ⟨gg, 0, none⟩) cap nb w4 hrg hlen)
  rw [hsum] at HLv
  have HC4 := Lib.hid (HC0.out.below hb4)
  clear hrg hlen hsum hcnt hrt hb4 HAl HC0
  go_wp2_with fail
  refine HLv.out.mono ?_
  rintro e w' ⟨rfl, rfl⟩
  obtain ⟨s0, hs0⟩ : ∃ s0, sm m0.l = s0 := ⟨_, rfl⟩
  have hb0 := HC4.out.sum
  rw [hs0] at hb0 ⊢
  have HSt : Hid (∃ (X : Nat → Prop) (l : List Bk) (c : Ch), CtX w M m0 o nb np r q X g #[.int .i64 x0, .int .i64 np, .int .i64 x2, .slice a3 n3 c3, .slice a4 n4 c4, .slice a5 n5 c5, .slice a6 n6 c6, .int .i64 x7, .int .i64 x8] l c 0 w4 ∧ sm l = s0) := Lib.hid ⟨X, m0.l, c, HC4.out, hs0⟩
  clear hs0 HC4 HLv
  go_wp2_with fail
  go_loopw [10, 11] (fun t i wr => ∃ (k : Nat) (z : Int), k ≤ m ∧ i = .int .i64 k ∧ t = .int .i64 z ∧ 0 ≤ z ∧ z ≤ 4096 ∧ Hid (∃ (X : Nat → Prop) (l : List Bk) (c : Ch), CtX w M m0 o nb np r q X g #[.int .i64 x0, .int .i64 np, .int .i64 x2, .slice a3 n3 c3, .slice a4 n4 c4, .slice a5 n5 c5, .slice a6 n6 c6, .int .i64 x7, .int .i64 x8] l c k wr ∧ sm l = z)) (fun _ i _ => m - (intOf i).toNat)
  case atStart => exact ⟨0, s0, by omega, rfl, rfl, hb0.1, hb0.2, HSt⟩
  case round =>
    obtain ⟨k, z, hk, rfl, rfl, hz0, hz1, hL⟩ := hrel
    clear HSt hb0
    by_cases hlt : k < m
    · have kl : (k : Int) < (m : Int) := by omega
      have hkl : k < ol.length := by rw [HM.out]; exact hlt
      obtain ⟨bo, off, rfl, hbo⟩ := HOl.out.at hkl
      have hbe : Below w.heap.size w wr := by obtain ⟨_, _, _, h, -⟩ := hL.out; exact h.bel
      obtain ⟨y, hy⟩ : ∃ y, ol[k]! = y := ⟨_, rfl⟩
      rw [hy] at hbo
      obtain ⟨z0w, z1w, A, cA, z2w, hAc, hRw⟩ := hbo
      have z0 := (hbe.cell (block_lt_of_cell z0w)).trans z0w
      have z1 := (hbe.cell (block_lt_of_cell z1w)).trans z1w
      have z2 := (hbe.cell (block_lt_of_cell z2w)).trans z2w
      clear hy hkl z0w z1w z2w
      obtain ⟨ln, hln⟩ : ∃ n, y.b.length = n := ⟨_, rfl⟩
      rw [hln] at z2
      have HLn := Lib.hid hln
      have hal : Below wr.heap.size wr (wr.alloc (.cells #[.int .i64 y.kind, .int .i64 y.block, .slice A ln cA] 42)) := (Below.refl _ _).alloc (Nat.le_refl _) _
      have HBx := Lib.hid (Blk.new wr 42 #[.int .i64 y.kind, .int .i64 y.block, .slice A ln cA])
      obtain ⟨X, l, c, hx0, hsl⟩ := hL.out
      have hRx : RwX (wr.alloc (.cells #[.int .i64 y.kind, .int .i64 y.block, .slice A ln cA] 42)) X A y.b := (hRw.outX (X := X) (fun b hb => Nat.le_of_lt (hx0.xlo b hb))).belowX (hbe.trans (hal.mono hbe.size))
      have hx := hx0.below hal
      have HQb : Hid (∀ b, Qm o nb m0.g r q b → b ≠ wr.heap.size) := Lib.hid fun b hb e => by
        have h9 : X b := by
          rcases hb with hb | hb
          · exact hx0.pr.fmX b (by show Fm o c.nb m0.g b; rw [hx0.cn]; exact hb)
          · exact hx0.pr.rfX b hb
        have := hx0.pr.ch.old b h9
        omega
      clear hal hx0 hL hRw hln
      go_upto_region 11 with (fail)
      clear z0 z1 z2
      generalize (wr.alloc (.cells #[.int .i64 y.kind, .int .i64 y.block, .slice A ln cA] 42)) = wb at HBx hRx hx ⊢
      clear hbe
      generalize wr.heap.size = pb at HBx HQb ⊢
      have z0 : wb.cell? ⟨pb, 0, none⟩ = some (.int .i64 y.kind) := HBx.out.cell 0
      have z1 : wb.cell? ⟨pb, 1, none⟩ = some (.int .i64 y.block) := HBx.out.cell 1
      have z2 : wb.cell? ⟨pb, 2, none⟩ = some (.slice A ln cA) := HBx.out.cell 2
      obtain ⟨hnpI, -, -⟩ := hx.np32
      have HNp := Lib.hid hnpI
      clear hnpI
      by_cases k1 : y.kind = 1
      · have t1 : (y.kind == 1) = true := beq_iff_eq.2 k1
        have HPg := Lib.hid (bprogram_any hx.pr.mg hx.pr.ch hx.pr.cp hx.pr.ln hx.pr.xg hx.pr.oM hx.pr.og A ln cA y.b hRx HLn.out)
        have hlen := prgT_lenB y.b l c
        have hkd := prgT_kd y.b l c (fun _ => False)
        have hic := prgT_ic y.b (l := l) (c := c) (by rw [hx.cp]; exact HNp.out) (by rw [hx.cp]; exact hx.ic)
        dsimp only at HPg
        obtain ⟨R, hR⟩ : ∃ R, prgT y.b l c = R := ⟨_, rfl⟩
        rw [hR] at HPg hlen hkd hic
        obtain ⟨⟨kk, pp, er⟩, l', c'⟩ := R
        dsimp only at HPg hlen hkd hic
        rw [hx.cp, hsl] at hic
        have HIc := Lib.hid hic
        have HKd := Lib.hid hkd
        have HLen := Lib.hid hlen
        have HX := Lib.hid hx
        have HRx := Lib.hid hRx
        clear hR hlen hkd hic hx hRx k1 hsl
        unfold PrP at HPg
        dsimp only at HPg
        go_wp2_with fail
        refine HPg.out.mono ?_
        rintro e w5 ⟨rfl, hm5, hc5, hk5⟩
        have hk5' : Kp (Qm o nb m0.g r q) wb w5 := hk5.mono (fun b hb => .inl (by rw [← HX.out.cn]; exact hb))
        have hx5 := HX.out.call (Pr.own (m := { m0 with l := l }) (l' := l') HX.out.pr hm5 hc5 hk5 HLen.out ⟨HKd.out.1, HKd.out.2.1, HKd.out.2.2.1⟩) HIc.out.1 (HX.out.wr.mono HIc.out.2.2.2) (HKd.out.1.trans HX.out.cn) HIc.out.2.2.1 hk5'
        have HBx5 := Lib.hid (HBx.out.kp hk5' (fun g => HQb.out _ g rfl))
        have hRx5 := HRx.out.kp hk5 HX.out.pr.fmX
        obtain ⟨dn, hr5⟩ := hx5.pr.rm
        have HRp := Lib.hid (rmprog_any hr5 A ln cA y.b hRx5 HLn.out)
        have HX5 := Lib.hid hx5
        clear hm5 hc5 hk5 hk5' hx5 hRx5 hr5 HPg HX HRx z0 z1 z2
        have z2 : w5.cell? ⟨pb, 2, none⟩ = some (.slice A ln cA) := HBx5.out.cell 2
        go_wp2_with fail
        refine HRp.out.mono ?_
        rintro e w6 ⟨⟨r1, r2, r3, rfl⟩, hr6, hk6⟩
        have hk6' : Kp (Qm o nb m0.g r q) w5 w6 := hk6.mono (fun b hb => .inr hb)
        have HX6 := Lib.hid (HX5.out.call (HX5.out.pr.doc hr6 hk6) HIc.out.1 HX5.out.wr HX5.out.cn HX5.out.cp hk6')
        clear hr6 hk6 hk6' HRp HX5 z2
        by_cases e0 : er = 0
        · subst e0
          have hsm : sm l' = z + 1 := by have := HIc.out.2.1; rw [if_pos rfl] at this; exact this
          have hz2 : z + 1 ≤ 4096 := by have := HX6.out.sum; omega
          have HAl := Lib.hid (ct_all HX6.out (by omega))
          have HS6 := Lib.hid hsm
          clear hsm
          go_wp2_with fail
          refine HAl.out.mono ?_
          rintro e w7 ⟨gg, cap, lw, rfl, hrg, hlw, hsum, hcnt, hrt, hb7⟩
          rw [HS6.out] at hsum
          have HLv := Lib.hid (refLive_any lw (some ⟨gg, 0, none⟩) cap nb w7 hrg hlw)
          have HCo := Lib.hid (refCount_any lw (some ⟨gg, 0, none⟩) cap nb 1 w7 hrg hlw)
          have HRi := Lib.hid (refRight_any lw (some ⟨gg, 0, none⟩) cap nb np w7 hrg hlw)
          rw [hsum] at HLv
          rw [decide_eq_true hrt] at HRi
          generalize cnt 1 lw nb = cc at hcnt HCo
          have tc : decide (1 < cc) = false := decide_eq_false (by omega)
          have HX7 := Lib.hid (HX6.out.below hb7)
          have c1 : w7.cell? ⟨g, 1, none⟩ = some (.int .i64 np) := HX7.out.box.cell 1
          clear hrg hlw hsum hrt hb7 HAl HX6 hcnt
          go_wp2_with fail
          refine HCo.out.mono ?_
          rintro e w8 ⟨rfl, rfl⟩
          go_wp2_with fail
          refine HLv.out.mono ?_
          rintro e w8 ⟨rfl, rfl⟩
          go_wp2_with fail
          refine HRi.out.mono ?_
          rintro e w8 ⟨rfl, hb8⟩
          have HEnd : Hid (∃ (X : Nat → Prop) (l : List Bk) (c : Ch), CtX w M m0 o nb np r q X g #[.int .i64 x0, .int .i64 np, .int .i64 x2, .slice a3 n3 c3, .slice a4 n4 c4, .slice a5 n5 c5, .slice a6 n6 c6, .int .i64 x7, .int .i64 x8] l c (k + 1) w8 ∧ sm l = (z + 1)) := Lib.hid ⟨X, l', c', HX7.out.below hb8, HS6.out⟩
          clear hb8 c1 HX7 HCo HLv HRi
          go_wp2
          go_roundw
          case rel => exact ⟨k + 1, (z + 1), by omega, by go_num, rfl, by omega, by omega, HEnd⟩
          case measure => simp [intOf]; omega
        · have te : (er == 0) = false := beq_eq_false_iff_ne.2 e0
          have hsm : sm l' = z := by have := HIc.out.2.1; rw [if_neg e0] at this; omega
          clear e0
          have HAl := Lib.hid (ct_all HX6.out (by omega))
          have HS6 := Lib.hid hsm
          clear hsm
          go_wp2_with fail
          refine HAl.out.mono ?_
          rintro e w7 ⟨gg, cap, lw, rfl, hrg, hlw, hsum, hcnt, hrt, hb7⟩
          rw [HS6.out] at hsum
          have HLv := Lib.hid (refLive_any lw (some ⟨gg, 0, none⟩) cap nb w7 hrg hlw)
          have HCo := Lib.hid (refCount_any lw (some ⟨gg, 0, none⟩) cap nb 1 w7 hrg hlw)
          have HRi := Lib.hid (refRight_any lw (some ⟨gg, 0, none⟩) cap nb np w7 hrg hlw)
          rw [hsum] at HLv
          rw [decide_eq_true hrt] at HRi
          generalize cnt 1 lw nb = cc at hcnt HCo
          have tc : decide (1 < cc) = false := decide_eq_false (by omega)
          have HX7 := Lib.hid (HX6.out.below hb7)
          have c1 : w7.cell? ⟨g, 1, none⟩ = some (.int .i64 np) := HX7.out.box.cell 1
          clear hrg hlw hsum hrt hb7 HAl HX6 hcnt
          go_wp2_with fail
          refine HCo.out.mono ?_
          rintro e w8 ⟨rfl, rfl⟩
          go_wp2_with fail
          refine HLv.out.mono ?_
          rintro e w8 ⟨rfl, rfl⟩
          go_wp2_with fail
          refine HRi.out.mono ?_
          rintro e w8 ⟨rfl, hb8⟩
          have HEnd : Hid (∃ (X : Nat → Prop) (l : List Bk) (c : Ch), CtX w M m0 o nb np r q X g #[.int .i64 x0, .int .i64 np, .int .i64 x2, .slice a3 n3 c3, .slice a4 n4 c4, .slice a5 n5 c5, .slice a6 n6 c6, .int .i64 x7, .int .i64 x8] l c (k + 1) w8 ∧ sm l = z) := Lib.hid ⟨X, l', c', HX7.out.below hb8, HS6.out⟩
          clear hb8 c1 HX7 HCo HLv HRi
          go_wp2
          go_roundw
          case rel => exact ⟨k + 1, z, by omega, by go_num, rfl, by omega, by omega, HEnd⟩
          case measure => simp [intOf]; omega
      · have t1 : (y.kind == 1) = false := beq_eq_false_iff_ne.2 k1
        by_cases k2 : y.kind = 2
        · have t2 : (y.kind == 2) = true := beq_iff_eq.2 k2
          have HDr := Lib.hid (bdrop_any hx.pr.mg y.block)
          have hlen := dpT_len y.block l
          have hic := dpT_ic HNp.out y.block hx.ic
          dsimp only at HDr
          obtain ⟨R, hR⟩ : ∃ R, dpT y.block l = R := ⟨_, rfl⟩
          rw [hR] at HDr hlen hic
          obtain ⟨er, l'⟩ := R
          dsimp only at HDr hlen hic
          rw [hsl] at hic
          have HIc := Lib.hid hic
          have HLen := Lib.hid hlen
          have HX := Lib.hid hx
          clear hR hlen hic hx hRx k1 k2 hsl
          go_wp2_with fail
          refine HDr.out.mono ?_
          rintro e w5 ⟨rfl, hm5, hk5⟩
          have hk5f : Kp (Fm o c.nb m0.g) wb w5 := hk5.mono (fun b e => .inr e)
          have hk5' : Kp (Qm o nb m0.g r q) wb w5 := hk5f.mono (fun b hb => .inl (by rw [← HX.out.cn]; exact hb))
          have hx5 := HX.out.call (Pr.own (m := { m0 with l := l }) (l' := l') HX.out.pr hm5 (HX.out.pr.ch.kp hk5 (fun b e => by rw [e]; exact HX.out.pr.xg) (fun b hb e => HX.out.pr.og (by have e2 : b = m0.g := e; rw [e2] at hb; exact hb))) hk5f HLen.out ⟨rfl, rfl, rfl⟩) HIc.out.1 (HX.out.wr.mono rfl) HX.out.cn HX.out.cp hk5'
          have HBx5 := Lib.hid (HBx.out.kp hk5' (fun g => HQb.out _ g rfl))
          obtain ⟨dn, hr5⟩ := hx5.pr.rm
          have HRp := Lib.hid (rmdrop_any hr5 y.block)
          have HX5 := Lib.hid hx5
          clear hm5 hk5 hk5f hk5' hx5 hr5 HDr HX z0 z1 z2
          have z1 : w5.cell? ⟨pb, 1, none⟩ = some (.int .i64 y.block) := HBx5.out.cell 1
          go_wp2_with fail
          refine HRp.out.mono ?_
          rintro e w6 ⟨⟨r1, rfl⟩, hr6, hk6⟩
          have hk6' : Kp (Qm o nb m0.g r q) w5 w6 := hk6.mono (fun b hb => .inr hb)
          have HX6 := Lib.hid (HX5.out.call (HX5.out.pr.doc hr6 hk6) HIc.out.1 HX5.out.wr HX5.out.cn HX5.out.cp hk6')
          clear hr6 hk6 hk6' HRp HX5 z1
          by_cases e0 : er = 0
          · subst e0
            have hsm : sm l' = z - 1 := by have := HIc.out.2; rw [if_pos rfl] at this; exact this
            have hz2 : 0 ≤ z - 1 := by have := HX6.out.sum; omega
            have HAl := Lib.hid (ct_all HX6.out (by omega))
            have HS6 := Lib.hid hsm
            clear hsm
            go_wp2_with fail
            refine HAl.out.mono ?_
            rintro e w7 ⟨gg, cap, lw, rfl, hrg, hlw, hsum, hcnt, hrt, hb7⟩
            rw [HS6.out] at hsum
            have HLv := Lib.hid (refLive_any lw (some ⟨gg, 0, none⟩) cap nb w7 hrg hlw)
            have HCo := Lib.hid (refCount_any lw (some ⟨gg, 0, none⟩) cap nb 1 w7 hrg hlw)
            have HRi := Lib.hid (refRight_any lw (some ⟨gg, 0, none⟩) cap nb np w7 hrg hlw)
            rw [hsum] at HLv
            rw [decide_eq_true hrt] at HRi
            generalize cnt 1 lw nb = cc at hcnt HCo
            have tc : decide (1 < cc) = false := decide_eq_false (by omega)
            have HX7 := Lib.hid (HX6.out.below hb7)
            have c1 : w7.cell? ⟨g, 1, none⟩ = some (.int .i64 np) := HX7.out.box.cell 1
            clear hrg hlw hsum hrt hb7 HAl HX6 hcnt
            go_wp2_with fail
            refine HCo.out.mono ?_
            rintro e w8 ⟨rfl, rfl⟩
            go_wp2_with fail
            refine HLv.out.mono ?_
            rintro e w8 ⟨rfl, rfl⟩
            go_wp2_with fail
            refine HRi.out.mono ?_
            rintro e w8 ⟨rfl, hb8⟩
            have HEnd : Hid (∃ (X : Nat → Prop) (l : List Bk) (c : Ch), CtX w M m0 o nb np r q X g #[.int .i64 x0, .int .i64 np, .int .i64 x2, .slice a3 n3 c3, .slice a4 n4 c4, .slice a5 n5 c5, .slice a6 n6 c6, .int .i64 x7, .int .i64 x8] l c (k + 1) w8 ∧ sm l = (z - 1)) := Lib.hid ⟨X, l', c, HX7.out.below hb8, HS6.out⟩
            clear hb8 c1 HX7 HCo HLv HRi
            go_wp2
            go_roundw
            case rel => exact ⟨k + 1, (z - 1), by omega, by go_num, rfl, by omega, by omega, HEnd⟩
            case measure => simp [intOf]; omega
          · have te : (er == 0) = false := beq_eq_false_iff_ne.2 e0
            have hsm : sm l' = z := by have := HIc.out.2; rw [if_neg e0] at this; omega
            clear e0
            have HAl := Lib.hid (ct_all HX6.out (by omega))
            have HS6 := Lib.hid hsm
            clear hsm
            go_wp2_with fail
            refine HAl.out.mono ?_
            rintro e w7 ⟨gg, cap, lw, rfl, hrg, hlw, hsum, hcnt, hrt, hb7⟩
            rw [HS6.out] at hsum
            have HLv := Lib.hid (refLive_any lw (some ⟨gg, 0, none⟩) cap nb w7 hrg hlw)
            have HCo := Lib.hid (refCount_any lw (some ⟨gg, 0, none⟩) cap nb 1 w7 hrg hlw)
            have HRi := Lib.hid (refRight_any lw (some ⟨gg, 0, none⟩) cap nb np w7 hrg hlw)
            rw [hsum] at HLv
            rw [decide_eq_true hrt] at HRi
            generalize cnt 1 lw nb = cc at hcnt HCo
            have tc : decide (1 < cc) = false := decide_eq_false (by omega)
            have HX7 := Lib.hid (HX6.out.below hb7)
            have c1 : w7.cell? ⟨g, 1, none⟩ = some (.int .i64 np) := HX7.out.box.cell 1
            clear hrg hlw hsum hrt hb7 HAl HX6 hcnt
            go_wp2_with fail
            refine HCo.out.mono ?_
            rintro e w8 ⟨rfl, rfl⟩
            go_wp2_with fail
            refine HLv.out.mono ?_
            rintro e w8 ⟨rfl, rfl⟩
            go_wp2_with fail
            refine HRi.out.mono ?_
            rintro e w8 ⟨rfl, hb8⟩
            have HEnd : Hid (∃ (X : Nat → Prop) (l : List Bk) (c : Ch), CtX w M m0 o nb np r q X g #[.int .i64 x0, .int .i64 np, .int .i64 x2, .slice a3 n3 c3, .slice a4 n4 c4, .slice a5 n5 c5, .slice a6 n6 c6, .int .i64 x7, .int .i64 x8] l c (k + 1) w8 ∧ sm l = z) := Lib.hid ⟨X, l', c, HX7.out.below hb8, HS6.out⟩
            clear hb8 c1 HX7 HCo HLv HRi
            go_wp2
            go_roundw
            case rel => exact ⟨k + 1, z, by omega, by go_num, rfl, by omega, by omega, HEnd⟩
            case measure => simp [intOf]; omega
        · have t2 : (y.kind == 2) = false := beq_eq_false_iff_ne.2 k2
          have HPy := Lib.hid (splayt_any (m0 := { m0 with l := l }) (Z := Zb np z k) (Z' := Zb np z (k + 1)) hx.pr ⟨hx.ic, hsl, hx.wr, hx.cp⟩ y (zb_zt HNp.out.1 k2 (by omega)) k1 A ln cA)
          have hop2 : o.p = .pointer (some ⟨o.bc, 0, none⟩) := rfl
          rw [hop2] at HPy
          have HX := Lib.hid hx
          clear hx hsl hRx k1 k2 hop2
          go_wp2_with fail
          refine HPy.out.mono ?_
          rintro e w6 ⟨⟨t, rfl⟩, ⟨l', c', hp5, ⟨hi5, hsm, hw5, hcp5⟩, hn5⟩, hk5⟩
          have HX6 := Lib.hid (HX.out.call hp5 hi5 hw5 (hn5.trans HX.out.cn) hcp5 (by rw [HX.out.cn] at hk5; exact hk5))
          clear hp5 hi5 hw5 hcp5 hn5 hk5 HPy HX z0 z1 z2
          have HAl := Lib.hid (ct_all HX6.out (by omega))
          have HS6 := Lib.hid hsm
          clear hsm
          go_wp2_with fail
          refine HAl.out.mono ?_
          rintro e w7 ⟨gg, cap, lw, rfl, hrg, hlw, hsum, hcnt, hrt, hb7⟩
          rw [HS6.out] at hsum
          have HLv := Lib.hid (refLive_any lw (some ⟨gg, 0, none⟩) cap nb w7 hrg hlw)
          have HCo := Lib.hid (refCount_any lw (some ⟨gg, 0, none⟩) cap nb 1 w7 hrg hlw)
          have HRi := Lib.hid (refRight_any lw (some ⟨gg, 0, none⟩) cap nb np w7 hrg hlw)
          rw [hsum] at HLv
          rw [decide_eq_true hrt] at HRi
          generalize cnt 1 lw nb = cc at hcnt HCo
          have tc : decide (1 < cc) = false := decide_eq_false (by omega)
          have HX7 := Lib.hid (HX6.out.below hb7)
          have c1 : w7.cell? ⟨g, 1, none⟩ = some (.int .i64 np) := HX7.out.box.cell 1
          clear hrg hlw hsum hrt hb7 HAl HX6 hcnt
          go_wp2_with fail
          refine HCo.out.mono ?_
          rintro e w8 ⟨rfl, rfl⟩
          go_wp2_with fail
          refine HLv.out.mono ?_
          rintro e w8 ⟨rfl, rfl⟩
          go_wp2_with fail
          refine HRi.out.mono ?_
          rintro e w8 ⟨rfl, hb8⟩
          have HEnd : Hid (∃ (X : Nat → Prop) (l : List Bk) (c : Ch), CtX w M m0 o nb np r q X g #[.int .i64 x0, .int .i64 np, .int .i64 x2, .slice a3 n3 c3, .slice a4 n4 c4, .slice a5 n5 c5, .slice a6 n6 c6, .int .i64 x7, .int .i64 x8] l c (k + 1) w8 ∧ sm l = z) := Lib.hid ⟨X, l', c', HX7.out.below hb8, HS6.out⟩
          clear hb8 c1 HX7 HCo HLv HRi
          go_wp2
          go_roundw
          case rel => exact ⟨k + 1, z, by omega, by go_num, rfl, by omega, by omega, HEnd⟩
          case measure => simp [intOf]; omega
    · have kl : ¬ (k : Int) < (m : Int) := by omega
      have HBe : Hid (Below w.heap.size w wr) := Lib.hid (by obtain ⟨_, _, _, h, -⟩ := hL.out; exact h.bel)
      go_wp2_with fail
      refine (HKn.out _).mono ?_
      rintro e w' ⟨rfl, hb9⟩
      have HB9 := Lib.hid (HBe.out.trans (hb9.mono HBe.out.size))
      clear hb9
      go_wp2
      go_ret
      exact ⟨rfl, HB9.out⟩
end Go.Proofs.YtjjggmopkfkpaaaGreat
