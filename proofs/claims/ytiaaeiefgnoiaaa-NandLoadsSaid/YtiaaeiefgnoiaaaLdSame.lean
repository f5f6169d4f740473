/-
  The law's call same: both chips tell the same. Nothing of one statement alone stands here.
-/
import Derived.Test.YtiaaeiefgnoiaaaLdM
import Derived.Test.YtiaaeiefgnoiaaaNandCopy
namespace Go.Proofs.Ytiaaeiefgnoiaaa
open Go.RowKit Crcm Go.ChangeShapes

set_option maxRecDepth 100000 in
set_option maxHeartbeats 4000000 in
theorem lsame_any {w : World} {X X' : Nat → Prop} {o : Own} {c : Ch} {ro : Rb} {r : Rx} (hc : ChAt w X o c) (hr : RxAt w X' ro r) (hs : LkS c r) :
    Calls Try.prog 11 #[o.p, .pointer (some ⟨ro.g, 0, none⟩)] w fun e w' => e = .returned (.bool true) ∧ Below w.heap.size w w' := by
  have HC := Lib.hid hc
  have HR := Lib.hid hr
  have HS := Lib.hid hs
  have hgd := hc.good
  unfold Gd at hgd
  have HDp := Lib.hid (dump_any hc.dc)
  have hop : o.p = .pointer (some ⟨o.bc, 0, none⟩) := rfl
  rw [hop] at HDp ⊢
  obtain ⟨nb, hnb⟩ : ∃ nb, c.nb = nb := ⟨_, rfl⟩
  obtain ⟨np, hnp⟩ : ∃ np, c.np = np := ⟨_, rfl⟩
  have HNb := Lib.hid hnb
  have HNp := Lib.hid hnp
  have HGd : Hid (7 < nb ∧ nb < 129 ∧ 3 < np ∧ np < 33) := Lib.hid (by omega)
  have hnb9 : nb < 129 := by omega
  have HRn : Hid (r.nb = nb ∧ r.np = np) := Lib.hid ⟨by rw [hs.geo.1, hnb], by rw [hs.geo.2.1, hnp]⟩
  have HPg : Hid (rxp r = allp c nb) := Lib.hid (by rw [← hnb]; exact hs.pages (by omega))
  have HAl : Hid ((allp c nb).length = nb * np) := Lib.hid (by rw [allp_len, hnp])
  rw [hnb, hnp] at HDp
  obtain ⟨N, hN⟩ : ∃ N, nb * np = N := ⟨_, rfl⟩
  have HN : Hid (nb * np = N ∧ N ≤ 4224) := Lib.hid ⟨hN, by rw [← hN]; exact Nat.mul_le_mul (by omega : nb ≤ 128) (by omega : np ≤ 33)⟩
  rw [hN] at HDp HAl
  clear hc hr hs hgd hop hnb hnp hN
  go_enter Try.func11, Try.ntmps11
  go_wp2_with fail
  refine HDp.out.mono ?_
  rintro e w1 ⟨⟨gp, cp, gb, cb, gw, cw, rfl, hrl, hbb, hww⟩, hb⟩
  have HB1 := Lib.hid hb
  have HC1 := Lib.hid (HC.out.below hb)
  have HR1 := Lib.hid (HR.out.below hb)
  have HRl := Lib.hid hrl
  have HBb := Lib.hid hbb
  have HWw := Lib.hid hww
  obtain ⟨r3, -, -, r6, r7⟩ := HR1.out.rc.rows
  rw [HRn.out.1, HRn.out.2] at r3
  rw [HN.out.1] at r3
  rw [HRn.out.1] at r6 r7
  have hrp : Rl w1 (some ⟨ro.p, 0, none⟩) (allp c nb) := by have := HR1.out.rl; rw [HPg.out] at this; exact this
  have HSa := Lib.hid (rsame_any (some ⟨gp, 0, none⟩) (some ⟨ro.p, 0, none⟩) N cp N (allp c nb) w1 HRl.out hrp HAl.out (by have := HN.out.2; omega))
  have t1 : ((nb : Int) != (nb : Int)) = false := bne_self_eq_false _
  clear hb hrl hbb hww hrp HDp HC HR
  go_wp2_with fail
  refine HSa.out.mono ?_
  rintro e w2 ⟨rfl, hb2⟩
  have HB2 := Lib.hid (HB1.out.trans (hb2.mono HB1.out.size))
  have HC2 := Lib.hid (HC1.out.below hb2)
  have HR2 := Lib.hid (HR1.out.below hb2)
  have HBb2 := Lib.hid (fun i (hi : i < nb) => (hb2.cell (block_lt_of_cell (HBb.out i hi))).trans (HBb.out i hi))
  have HWw2 := Lib.hid (fun i (hi : i < nb) => (hb2.cell (block_lt_of_cell (HWw.out i hi))).trans (HWw.out i hi))
  clear hb2 HSa r3 r6 r7 HC1 HR1 HBb HWw HRl HB1 t1
  go_wp2_with fail
  go_loopw [8] (fun i wr => ∃ k : Nat, k ≤ nb ∧ i = .int .i64 k ∧ Hid (Below w2.heap.size w2 wr)) (fun i _ => nb - (intOf i).toNat)
  case atStart => exact ⟨0, Nat.zero_le _, rfl, Lib.hid (Below.refl _ _)⟩
  case round =>
    obtain ⟨k, hkn, rfl, hB⟩ := hrel
    by_cases hlt : k < nb
    · have kl : (k : Int) < (nb : Int) := by omega
      have k0 : (0 : Int) ≤ (k : Int) := by omega
      have hkc : k < c.nb := by rw [HNb.out]; exact hlt
      have hC := HC2.out.below hB.out
      have hR := HR2.out.below hB.out
      obtain ⟨-, -, -, r6, r7⟩ := hR.rc.rows
      rw [HRn.out.1] at r6 r7
      obtain ⟨-, -, x6, x7⟩ := hR.row (k := k) (by rw [HRn.out.1]; exact hlt)
      rw [HS.out.bad k hkc] at x6
      rw [HS.out.wr k hkc] at x7
      have e1 := fun mm : Later wr => latercellD mm ((hB.out.cell (block_lt_of_cell (HBb2.out k hlt))).trans (HBb2.out k hlt))
      have e2 := fun mm : Later wr => latercellD mm ((hB.out.cell (block_lt_of_cell (HWw2.out k hlt))).trans (HWw2.out k hlt))
      have e3 := fun mm : Later wr => latercellD mm r6
      have e4 := fun mm : Later wr => latercellD mm r7
      have e5 := fun mm : Later wr => latercellD mm x6
      have e6 := fun mm : Later wr => latercellD mm x7
      have D1 := Lib.hid (fun mm : Later wr => later_same (bad_any (hC.below mm.bel) k hkc))
      have D2 := Lib.hid (fun mm : Later wr => later_same (wear_any (hC.below mm.bel) k hkc))
      have hop : o.p = .pointer (some ⟨o.bc, 0, none⟩) := rfl
      rw [hop] at D1 D2
      have t1 : ((c.wear k) != (c.wear k)) = false := bne_self_eq_false _
      have t2 : ((c.bad k) != (c.bad k)) = false := bne_self_eq_false _
      generalize c.wear k = wk at e2 e6 D2 t1
      generalize c.bad k = bk at e1 e5 D1 t2
      clear hkc hC hR r6 r7 x6 x7 hop
      go_wp2_with fail
      refine wp_region_later (by kernel_rfl) (by kernel_rfl) ?_
      repeat (go_big_quiet_step (with_reducible first | exact D1.out _ | exact D2.out _))
      refine wpQuiet_nil ?_
      rintro _ ⟨mm, rfl⟩
      go_wp2
      go_roundw
      case rel => exact ⟨k + 1, by omega, by go_num, Lib.hid (hB.out.trans (mm.bel.mono hB.out.size))⟩
      case measure => simp [intOf]; omega
    · have kl : ¬ (k : Int) < (nb : Int) := by omega
      have hC := HC2.out.below hB.out
      have hR := HR2.out.below hB.out
      obtain ⟨g0, g1, g2, g10, -⟩ := hR.rc.geo
      obtain ⟨-, -, g11, g12⟩ := hR.gcells
      rw [HS.out.geo.1] at g0
      rw [HS.out.geo.2.1] at g1
      rw [HS.out.geo.2.2] at g2
      rw [HS.out.up] at g10
      rw [HS.out.st] at g11
      rw [HS.out.rd] at g12
      have e0 := fun mm : Later wr => latercellD mm g0
      have e1 := fun mm : Later wr => latercellD mm g1
      have e2 := fun mm : Later wr => latercellD mm g2
      have e3 := fun mm : Later wr => latercellD mm g10
      have e4 := fun mm : Later wr => latercellD mm g11
      have e5 := fun mm : Later wr => latercellD mm g12
      have D1 := Lib.hid (fun mm : Later wr => later_same (up_any (hC.below mm.bel)))
      have D2 := Lib.hid (fun mm : Later wr => later_same (strokes_any (hC.below mm.bel)))
      have D3 := Lib.hid (fun mm : Later wr => later_same (reads_any (hC.below mm.bel)))
      have D4 := Lib.hid (fun mm : Later wr => later_below (geo_any (hC.below mm.bel)))
      have hop : o.p = .pointer (some ⟨o.bc, 0, none⟩) := rfl
      rw [hop] at D1 D2 D3 D4
      have HBr := Lib.hid (HB2.out.trans (hB.out.mono HB2.out.size))
      have t1 : (c.up == !(!c.up)) = true := by simp
      have t2 : (c.strokes == c.strokes) = true := beq_self_eq_true _
      have t3 : (c.reads == c.reads) = true := beq_self_eq_true _
      generalize c.strokes = s1 at e4 D2 t2
      generalize c.reads = s2 at e5 D3 t3
      generalize c.up = s3 at e3 D1 t1
      generalize c.sz = s4 at e2 D4
      generalize c.nb = s5 at e0 D4
      generalize c.np = s6 at e1 D4
      clear hC hR g0 g1 g2 g10 g11 g12 hop
      go_wp2_with fail
      refine wp_region_later (by kernel_rfl) (by kernel_rfl) ?_
      repeat (go_big_quiet_step (with_reducible first | exact D1.out _ | exact D2.out _ | exact D3.out _ | exact D4.out _))
      refine wpQuiet_nil ?_
      rintro _ ⟨mm, rfl⟩
      go_wp2
      go_ret
      exact ⟨rfl, HBr.out.trans (mm.bel.mono HBr.out.size)⟩

end Go.Proofs.Ytiaaeiefgnoiaaa
