/-
  What was programmed is read at the place that was told: the law BlkReads.
-/
import Derived.Test.YtnnpdlebgfjihaaLE
import Derived.Test.YtnnpdlebgfjihaaLG
import Derived.Test.YtnnpdlebgfjihaaLF
import Derived.Test.YtnnpdlebgfjihaaKR
import Derived.Test.YtnnpdlebgfjihaaLC
import Derived.Deep.RegionHeld3
namespace Go.Proofs.Ytnnpdlebgfjihaa
open Go.RowKit Crcm Gcm Go.ChangeShapes

theorem Try.infoPl : (Try.prog.info? 45).map (fun i => (i.zero, i.size, i.bytes)) = some (some (.agg #[.int .i64 0, .int .i64 0]), 2, 16) := by kernel_rfl
theorem cell_two_new (w : World) (x y : Value) (t : TypeId) : ∀ j u, [x, y][j]? = some u → (w.alloc (.cells #[x, y] t)).cell? ((⟨w.heap.size, 0, none⟩ : Addr).add j) = some u := by
  intro j u hj
  match j, hj with
  | 0, hj =>
    simp at hj
    subst hj
    simp [Addr.add]
  | 1, hj =>
    simp at hj
    subst hj
    simp [Addr.add]

/-- what stands while the places are read -/
def RdS (w0 : World) (M : Nat) (m0 : Mg) (o : Own) (nb : Nat) (r : Rb) (q : Rq) (B n : Nat) (X : Nat → Prop) (l : List Bk) (pl : List (Int × Int)) (tl : List (List Int)) (vs : List Value) (v1 v2 : Value) (w : World) : Prop :=
  ∃ c, LsX w0 M m0 o nb r q B X l c n n pl vs v1 v2 w ∧ Gz pl tl l c ∧ c.up = true
theorem RdS.below {w0 w w' : World} {M : Nat} {m0 : Mg} {o : Own} {nb : Nat} {r : Rb} {q : Rq} {B n : Nat} {X : Nat → Prop} {l : List Bk} {pl : List (Int × Int)} {tl : List (List Int)} {vs : List Value} {v1 v2 : Value} (h : RdS w0 M m0 o nb r q B n X l pl tl vs v1 v2 w) (hb : Below w.heap.size w w') : RdS w0 M m0 o nb r q B n X l pl tl vs v1 v2 w' := by
  obtain ⟨c, h1, h2⟩ := h
  exact ⟨c, h1.below hb, h2⟩
theorem rds_read {w0 w : World} {M : Nat} {m0 : Mg} {o : Own} {nb : Nat} {r : Rb} {q : Rq} {B n : Nat} {X : Nat → Prop} {l : List Bk} {pl : List (Int × Int)} {tl : List (List Int)} {vs : List Value} {v1 v2 : Value} (h : RdS w0 M m0 o nb r q B n X l pl tl vs v1 v2 w) (j : Nat) (h1 : j < pl.length) (h2 : j < tl.length) (h0 : 0 ≤ pl[j].1) :
    Calls Try.prog 13 #[.pointer (some ⟨o.bc, 0, none⟩), .int .i64 pl[j].1, .int .i64 pl[j].2] w fun e w' =>
      (∃ gb cc, e = .returned (.tuple #[.slice (some ⟨gb, 0, none⟩) tl[j].length cc, .int .i64 0]) ∧ Rw w' (some ⟨gb, 0, none⟩) tl[j]) ∧ RdS w0 M m0 o nb r q B n X l pl tl vs v1 v2 w' := by
  obtain ⟨c, hx, hg, hu⟩ := h
  obtain ⟨g1, g2, g3, g4⟩ := hg.2 j h1 h2 h0
  obtain ⟨k, hk⟩ : ∃ k : Nat, pl[j].1 = k := ⟨pl[j].1.toNat, by omega⟩
  obtain ⟨p, hp⟩ : ∃ p : Nat, pl[j].2 = p := ⟨pl[j].2.toNat, by omega⟩
  rw [hk] at g1 g4 ⊢
  rw [hp] at g2 g3 g4 ⊢
  rw [Int.toNat_natCast, Int.toNat_natCast] at g4
  have hre : rpE c k p = 0 := by
    unfold rpE
    have : reE c k = 0 := by
      unfold reE
      rw [hu]
      simp only [if_true]
      rw [if_neg (by omega)]
    rw [this, if_pos rfl, if_neg (by omega)]
  have hrd : rdL c k p = tl[j] := by unfold rdL; rw [g4]; rfl
  refine (read_yes hx.pr.ch k p hre).mono ?_
  rintro e w' ⟨⟨gb, cc, rfl, -, -, hr, hl⟩, hc, hk2⟩
  rw [hrd] at hr hl
  refine ⟨⟨gb, cc, by rw [hl], hr⟩, _, hx.call (Pr.own (m := { m0 with l := l }) (l' := l) hx.pr (hx.pr.mg.kp hk2 hx.pr.oM hx.pr.og) hc (hk2.mono (fun b hb => .inl hb)) rfl ⟨rfl, rfl, rfl⟩) hx.cn (hk2.mono (fun b hb => .inl (.inl (by rw [← hx.cn]; exact hb)))), hg, hu⟩

set_option maxRecDepth 100000 in
set_option maxHeartbeats 8000000 in
theorem blkReads_core (s : Su) (a : Sa) (ao : Option Addr) (m co : Nat) (ol : List Bo) (w : World) (hs : SuAt w s a) (ho : RoB w ao ol) (hm : ol.length = m) :
    Calls Try.prog 3 #[.agg (suC s a), .slice ao m co] w fun e w' => e = .returned (.bool true) ∧ Below w.heap.size w w' := by
  obtain ⟨ip, hip, py0, py1, py2⟩ := info_parts Try.infoPl
  obtain ⟨ig, hig, gy0, gy1, gy2⟩ := info_parts Try.infoPg
  have HLong := Lib.hid (fun W (hb : Below w.heap.size w W) => slong_any s a ao m co ol W (hs.below hb) (ho.below hb) hm)
  have HBoth := Lib.hid (fun W (hb : Below w.heap.size w W) (hf : SuFew s) => sboth_any s a W (hs.below hb) hf)
  have HKn := Lib.hid (fun W => knownB_any W)
  have HOl := Lib.hid ho
  have HM := Lib.hid hm
  have HB := Lib.hid ((Below.refl w.heap.size w).alloc (Nat.le_refl _) (.cells (suC s a) 28))
  have HBk := Lib.hid (Blk.new w 28 (suC s a))
  obtain ⟨x0, x1, x2, a3, n3, c3, a4, n4, c4, a5, n5, c5, a6, n6, c6, x7, x8, hcs⟩ : ∃ x0 x1 x2 a3 n3 c3 a4 n4 c4 a5 n5 c5 a6 n6 c6 x7 x8, suC s a = #[.int .i64 x0, .int .i64 x1, .int .i64 x2, .slice a3 n3 c3, .slice a4 n4 c4, .slice a5 n5 c5, .slice a6 n6 c6, .int .i64 x7, .int .i64 x8] := ⟨_, _, _, _, _, _, _, _, _, _, _, _, _, _, _, _, _, rfl⟩
  rw [hcs] at HLong HBoth HB HBk ⊢
  clear hs ho hm hcs
  go_enter Try.func3, Try.ntmps3
  go_upto_region 1 with (fail)
  generalize (w.alloc (.cells #[.int .i64 x0, .int .i64 x1, .int .i64 x2, .slice a3 n3 c3, .slice a4 n4 c4, .slice a5 n5 c5, .slice a6 n6 c6, .int .i64 x7, .int .i64 x8] 28)) = w1 at HB HBk ⊢
  obtain ⟨g, hg⟩ : ∃ g, w.heap.size = g := ⟨_, rfl⟩
  rw [hg] at HBk ⊢
  clear hg
  have q0 : w1.cell? ⟨g, 0, none⟩ = some (.int .i64 x0) := HBk.out.cell 0
  have q1 : w1.cell? ⟨g, 1, none⟩ = some (.int .i64 x1) := HBk.out.cell 1
  have q2 : w1.cell? ⟨g, 2, none⟩ = some (.int .i64 x2) := HBk.out.cell 2
  have q3 : w1.cell? ⟨g, 3, none⟩ = some (.slice a3 n3 c3) := HBk.out.cell 3
  have q4 : w1.cell? ⟨g, 4, none⟩ = some (.slice a4 n4 c4) := HBk.out.cell 4
  have q5 : w1.cell? ⟨g, 5, none⟩ = some (.slice a5 n5 c5) := HBk.out.cell 5
  have q6 : w1.cell? ⟨g, 6, none⟩ = some (.slice a6 n6 c6) := HBk.out.cell 6
  have q7 : w1.cell? ⟨g, 7, none⟩ = some (.int .i64 x7) := HBk.out.cell 7
  have q8 : w1.cell? ⟨g, 8, none⟩ = some (.int .i64 x8) := HBk.out.cell 8
  go_wp2_with fail
  refine (HLong.out _ HB.out).mono ?_
  rintro e w2 ⟨he, hb2⟩
  have HB2 := Lib.hid (HB.out.trans (hb2.mono HB.out.size))
  have HBk2 := Lib.hid (HBk.out.below hb2 HBk.out.lt)
  clear q0 q1 q2 q3 q4 q5 q6 q7 q8 hb2
  rcases he with ⟨rfl, hfew, hm9, hb9⟩ | rfl
  case inr =>
    go_wp2_with fail
    refine (HKn.out _).mono ?_
    rintro e w' ⟨rfl, hb9⟩
    have HB9 := Lib.hid (HB2.out.trans (hb9.mono HB2.out.size))
    clear hb9
    go_wp2
    go_ret
    exact ⟨rfl, HB9.out⟩
  have HFew := Lib.hid hfew
  have hm90 : m ≤ 9000 := by rw [← HM.out]; exact hm9
  clear hfew hm9 hb9 HLong
  have q0 : w2.cell? ⟨g, 0, none⟩ = some (.int .i64 x0) := HBk2.out.cell 0
  have q1 : w2.cell? ⟨g, 1, none⟩ = some (.int .i64 x1) := HBk2.out.cell 1
  have q2 : w2.cell? ⟨g, 2, none⟩ = some (.int .i64 x2) := HBk2.out.cell 2
  have q3 : w2.cell? ⟨g, 3, none⟩ = some (.slice a3 n3 c3) := HBk2.out.cell 3
  have q4 : w2.cell? ⟨g, 4, none⟩ = some (.slice a4 n4 c4) := HBk2.out.cell 4
  have q5 : w2.cell? ⟨g, 5, none⟩ = some (.slice a5 n5 c5) := HBk2.out.cell 5
  have q6 : w2.cell? ⟨g, 6, none⟩ = some (.slice a6 n6 c6) := HBk2.out.cell 6
  have q7 : w2.cell? ⟨g, 7, none⟩ = some (.int .i64 x7) := HBk2.out.cell 7
  have q8 : w2.cell? ⟨g, 8, none⟩ = some (.int .i64 x8) := HBk2.out.cell 8
  go_wp2_with fail
  refine (HBoth.out _ HB2.out HFew.out).mono ?_
  rintro e w3 ⟨hb3, hcase⟩
  have HB3 := Lib.hid (HB2.out.trans (hb3.mono HB2.out.size))
  clear q0 q1 q2 q3 q4 q5 q6 q7 q8 HBk HBk2 HB HFew HBoth
  rcases hcase with rfl | ⟨X, M, m0, o, c, r, q, rfl, hpr, hxlo, hxhi, -, -, -, -, hM⟩
  case inl =>
    clear hb3
    go_wp2_with fail
    refine (HKn.out _).mono ?_
    rintro e w' ⟨rfl, hb9⟩
    have HB9 := Lib.hid (HB3.out.trans (hb9.mono HB3.out.size))
    clear hb9
    go_wp2
    go_ret
    exact ⟨rfl, HB9.out⟩
  have HLs : Hid (LsH w M m0 o c.nb r q w3.heap.size 0 (.slice none 0 0) (.slice none 0 0) w3) := Lib.hid ⟨X, m0.l, c, [], [], [], ⟨hpr, rfl, fun b hb => Nat.le_trans HB2.out.size (hxlo b hb), fun g e => (by cases e), fun g e => (by cases e), World.ownsRow_nil _ _ _ _, World.ownsRow_nil _ _ _ _, HB3.out, fun b hb => by
    rcases hb with (hb | hb) | rfl
    · exact hxhi b (hpr.fmX b hb)
    · exact hxhi b (hpr.rfX b hb)
    · exact hM, HB3.out.size, Nat.le_refl _⟩, ⟨rfl, fun i hi => by simp at hi⟩, Tx.nil, rfl⟩
  have HLo : Hid (w.heap.size ≤ w3.heap.size) := Lib.hid HB3.out.size
  obtain ⟨nb, hnb⟩ : ∃ nb, c.nb = nb := ⟨_, rfl⟩
  rw [hnb] at HLs
  have hop : o.p = .pointer (some ⟨o.bc, 0, none⟩) := rfl
  rw [hop]
  clear hb3 hpr hxlo hxhi hM hnb hop HB2 HB3
  generalize hBe : w3.heap.size = B at HLs HLo
  clear hBe
  go_wp2_with fail
  go_loopw [10, 11, 12] (fun p t i wr => ∃ (k n : Nat) (a1 : Option Addr) (c1 : Nat) (a2 : Option Addr) (c2 : Nat), k ≤ m ∧ n ≤ k ∧ i = .int .i64 k ∧ p = .slice a1 n c1 ∧ t = .slice a2 n c2 ∧ Hid (LsH w M m0 o nb r q B n (.slice a1 n c1) (.slice a2 n c2) wr)) (fun _ _ i _ => m - (intOf i).toNat)
  case atStart => exact ⟨0, 0, none, 0, none, 0, by omega, by omega, rfl, rfl, rfl, HLs⟩
  case round =>
    obtain ⟨k, n, a1, c1, a2, c2, hk, hn, rfl, rfl, rfl, hL⟩ := hrel
    clear HLs
    by_cases hlt : k < m
    · have kl : (k : Int) < (m : Int) := by omega
      have hkl : k < ol.length := by rw [HM.out]; exact hlt
      obtain ⟨bo, off, rfl, hbo⟩ := HOl.out.at hkl
      have hbe : Below w.heap.size w wr := by obtain ⟨_, _, _, _, _, _, h, -⟩ := hL.out; exact h.bel
      obtain ⟨y, hy⟩ : ∃ y, ol[k]! = y := ⟨_, rfl⟩
      rw [hy] at hbo
      obtain ⟨z0w, z1w, A, cA, z2w, hAc, hRw⟩ := hbo
      have z0 := (hbe.cell (block_lt_of_cell z0w)).trans z0w
      have z1 := (hbe.cell (block_lt_of_cell z1w)).trans z1w
      have z2 := (hbe.cell (block_lt_of_cell z2w)).trans z2w
      clear hy hkl z0w z1w z2w
      obtain ⟨ln, hln⟩ : ∃ n, y.b.length = n := ⟨_, rfl⟩
      rw [hln] at z2
      have HRw := Lib.hid hRw
      have HLn := Lib.hid hln
      have hal : Below wr.heap.size wr (wr.alloc (.cells #[.int .i64 y.kind, .int .i64 y.block, .slice A ln cA] 41)) := (Below.refl _ _).alloc (Nat.le_refl _) _
      have HBx := Lib.hid (Blk.new wr 41 #[.int .i64 y.kind, .int .i64 y.block, .slice A ln cA])
      obtain ⟨X, l, c, pl, tl, vs, hx0, hgz, htx, hpl⟩ := hL.out
      have hRx := (hRw.outX hx0.xlo).belowX (hbe.trans (hal.mono hbe.size))
      have hx := hx0.below hal
      have HPb : Hid (B ≤ wr.heap.size ∧ (∀ gg, (Value.slice a1 n c1).ownBlock = some gg → gg ≠ wr.heap.size) ∧ (∀ gg, (Value.slice a2 n c2).ownBlock = some gg → gg ≠ wr.heap.size)) := Lib.hid ⟨hx0.lo.2, fun gg e => by have := (hx0.o1.lt gg e).2; omega, fun gg e => by have := (hx0.o2.lt gg e).2; omega⟩
      clear hal hx0 hL hRw hln
      go_upto_region 12 with (fail)
      clear z0 z1 z2
      generalize (wr.alloc (.cells #[.int .i64 y.kind, .int .i64 y.block, .slice A ln cA] 41)) = wb at HBx hRx hx ⊢
      clear hbe
      generalize wr.heap.size = pb at HBx HPb ⊢
      have z0 : wb.cell? ⟨pb, 0, none⟩ = some (.int .i64 y.kind) := HBx.out.cell 0
      have z2 : wb.cell? ⟨pb, 2, none⟩ = some (.slice A ln cA) := HBx.out.cell 2
      by_cases k1 : y.kind = 1
      · have t1 : (y.kind == 1) = true := beq_iff_eq.2 k1
        have HPg := Lib.hid (bprogram_any hx.pr.mg hx.pr.ch hx.pr.cp hx.pr.ln hx.pr.xg hx.pr.oM hx.pr.og A ln cA y.b hRx HLn.out)
        have hlen := prgT_len y.b l c
        have hkd := prgT_kd y.b l c (fun _ => False)
        have hg1 := hgz.prog y.b
        have hg2 := hgz.push y.b
        dsimp only at HPg
        obtain ⟨R, hR⟩ : ∃ R, prgT y.b l c = R := ⟨_, rfl⟩
        rw [hR] at HPg hlen hkd hg1 hg2
        obtain ⟨⟨kk, pp, er⟩, l', c'⟩ := R
        dsimp only at HPg hlen hkd hg1 hg2
        have HG1 := Lib.hid hg1
        have HG2 := Lib.hid hg2
        have HKd := Lib.hid hkd
        have HLen := Lib.hid hlen
        have HX := Lib.hid hx
        have HRx := Lib.hid hRx
        have HTx := Lib.hid htx
        have HPl := Lib.hid hpl
        clear hR hlen hkd hg1 hg2 hgz hx hRx k1 htx hpl
        unfold PrP at HPg
        dsimp only at HPg
        go_wp2_with fail
        refine HPg.out.mono ?_
        rintro e w5 ⟨rfl, hm5, hc5, hk5⟩
        have hk5' : Kp (Qm o nb m0.g r q) wb w5 := hk5.mono (fun b hb => .inl (by rw [← HX.out.cn]; exact hb))
        have hx5 := HX.out.call (Pr.own (m := { m0 with l := l }) (l' := l') HX.out.pr hm5 hc5 hk5 HLen.out ⟨HKd.out.1, HKd.out.2.1, HKd.out.2.2.1⟩) (HKd.out.1.trans HX.out.cn) hk5'
        have HBx5 := Lib.hid (HBx.out.kp hk5' (fun g => by have := HX.out.fb _ (.inl g); have := HPb.out.1; omega))
        have hRx5 := HRx.out.kp hk5 HX.out.pr.fmX
        obtain ⟨dn, hr5⟩ := hx5.pr.rm
        have HRp := Lib.hid (rmprog_any hr5 A ln cA y.b hRx5 HLn.out)
        have HX5 := Lib.hid hx5
        clear hm5 hc5 hk5 hk5' hx5 hRx5 hr5 HPg HX HRx z0 z2
        have z0 : w5.cell? ⟨pb, 0, none⟩ = some (.int .i64 y.kind) := HBx5.out.cell 0
        have z2 : w5.cell? ⟨pb, 2, none⟩ = some (.slice A ln cA) := HBx5.out.cell 2
        go_wp2_with fail
        refine HRp.out.mono ?_
        rintro e w6 ⟨⟨r1, r2, r3, rfl⟩, hr6, hk6⟩
        have hk6' : Kp (Qm o nb m0.g r q) w5 w6 := hk6.mono (fun b hb => .inr hb)
        have HX6 := Lib.hid (HX5.out.call (HX5.out.pr.doc hr6 hk6) HX5.out.cn hk6')
        have HBx6 := Lib.hid (HBx5.out.kp hk6' (fun g => by have := HX5.out.fb _ (.inl g); have := HPb.out.1; omega))
        clear hr6 hk6 hk6' HRp HX5 z0 z2
        by_cases e0 : er = 0
        · subst e0
          have hown := HX6.out.o1
          have hs6 := HX6.out.lo.2
          go_wp2_with (at_builtin; refine wpList_append_own_at _ rfl _ _ 37 rfl B 45 ip (.agg #[.int .i64 0, .int .i64 0]) 2 16 Try.underlying37 hip py0 py1 py2 rfl (by decide) _ _ _ rfl (hown.alloc _) ⟨w6.heap.size, 0, none⟩ 1 1 [.int .i64 kk, .int .i64 pp] rfl ?c0 (cell_two_new _ _ _ _) ?c2 ?c3 ?c4 ?c5 ?_)
          case c0 => rfl
          case c2 => intro u hu; simp at hu; rcases hu with rfl | rfl <;> rfl
          case c3 => unfold maxLen; omega
          case c4 => omega
          case c5 => simp; omega
          intro v' w7 hown1 hgrow _ hob
          obtain ⟨a1', c1', rfl⟩ := own_form hown1
          obtain ⟨X7, hx7⟩ := HX6.out.push1 (x := (kk, pp)) _ (by rw [flat2_append]; simpa [flat2] using hown1) hgrow (by simpa using hob)
          have HBx7 : Hid (Blk w7 pb 41 #[.int .i64 y.kind, .int .i64 y.block, .slice A ln cA]) := Lib.hid (by
            have h6 := HBx6.out.lt
            exact ((hgrow.block pb (by simp; omega) (fun e => HPb.out.2.1 pb e.symm rfl)).trans (Below.heap_alloc _ _ pb h6)).trans HBx6.out)
          have HX7 := Lib.hid hx7
          clear hown1 hgrow hob hown hs6 hx7 HX6 HBx6
          have z2 : w7.cell? ⟨pb, 2, none⟩ = some (.slice A ln cA) := HBx7.out.cell 2
          have hown := HX7.out.o2
          have hs7 := HX7.out.lo.2
          go_wp2_with (at_builtin; refine wpList_append_own_at _ rfl _ _ 38 rfl B 39 ig (.slice none 0 0) 1 24 Try.underlying38 hig gy0 gy1 gy2 rfl (by decide) _ _ _ rfl (hown.alloc _) ⟨w7.heap.size, 0, none⟩ 1 1 [.slice A ln cA] rfl ?c0 (cell_one_new _ _ _) ?c2 ?c3 ?c4 ?c5 ?_)
          case c0 => rfl
          case c2 => intro u hu; simp at hu; subst hu; rfl
          case c3 => unfold maxLen; omega
          case c4 => omega
          case c5 => simp; omega
          intro v'' w8 hown1 hgrow _ hob
          obtain ⟨a2', c2', rfl⟩ := own_form hown1
          obtain ⟨X8, hx8⟩ := HX7.out.push2 _ hown1 hgrow (by simpa using hob)
          have HEnd : Hid (LsH w M m0 o nb r q B (n + 1) (.slice a1' (n + 1) c1') (.slice a2' (n + 1) c2') w8) := Lib.hid ⟨X8, l', c', pl ++ [(kk, pp)], tl ++ [y.b], vs ++ [.slice A ln cA], hx8, HG2.out (by first | rfl | trivial), (by have := HTx.out.push (c := cA) HRw.out; rw [HLn.out] at this; exact this), by simp [HPl.out]⟩
          clear hown1 hgrow hob hown hs7 hx8 HX7 HBx7 z2
          go_wp2
          go_roundw
          case rel => exact ⟨k + 1, n + 1, _, _, _, _, by omega, by omega, by go_num, rfl, rfl, HEnd⟩
          case measure => simp [intOf]; omega
        · have te : (er == 0) = false := beq_eq_false_iff_ne.2 e0
          have HEnd : Hid (LsH w M m0 o nb r q B n (.slice a1 n c1) (.slice a2 n c2) w6) := Lib.hid ⟨X, l', c', pl, tl, vs, HX6.out, HG1.out, HTx.out, HPl.out⟩
          go_wp2
          go_roundw
          case rel => exact ⟨k + 1, n, _, _, _, _, by omega, by omega, by go_num, rfl, rfl, HEnd⟩
          case measure => simp [intOf]; omega
      · have t1 : (y.kind == 1) = false := beq_eq_false_iff_ne.2 k1
        have z1 : wb.cell? ⟨pb, 1, none⟩ = some (.int .i64 y.block) := HBx.out.cell 1
        by_cases k3 : y.kind = 3
        case neg =>
          have t3 : (y.kind == 3) = false := beq_eq_false_iff_ne.2 k3
          have HPy := Lib.hid (splays_any (m0 := { m0 with l := l }) hx.pr hgz y (Gz.zc (fun e => absurd e k3)) k1 A ln cA)
          have hop2 : o.p = .pointer (some ⟨o.bc, 0, none⟩) := rfl
          rw [hop2] at HPy
          have HX := Lib.hid hx
          have HTx := Lib.hid htx
          have HPl := Lib.hid hpl
          clear hx htx hpl hgz hRx k1 k3 hop2
          go_wp2_with fail
          refine HPy.out.mono ?_
          rintro e w5 ⟨⟨t, rfl⟩, ⟨l', c', hp5, hg5, hn5⟩, hk5⟩
          have HEnd : Hid (LsH w M m0 o nb r q B n (.slice a1 n c1) (.slice a2 n c2) w5) := Lib.hid ⟨X, l', c', pl, tl, vs, HX.out.call hp5 (hn5.trans HX.out.cn) (by rw [HX.out.cn] at hk5; exact hk5), hg5, HTx.out, HPl.out⟩
          clear hp5 hg5 hn5 hk5 HPy HX
          go_wp2
          go_roundw
          case rel => exact ⟨k + 1, n, _, _, _, _, by omega, by omega, by go_num, rfl, rfl, HEnd⟩
          case measure => simp [intOf]; omega
        have t3 : (y.kind == 3) = true := beq_iff_eq.2 k3
        have HX0 : Hid (LsX w M m0 o nb r q B X l c n n (mkj y.block pl 0) vs (.slice a1 n c1) (.slice a2 n c2) wb) := Lib.hid (by rw [mkj_zero]; exact hx)
        have HG := Lib.hid hgz
        have HTx := Lib.hid htx
        have HPl := Lib.hid hpl
        have HK1 := Lib.hid k1
        clear hx htx hpl hgz hRx k1 k3 z1
        go_wp2_with fail
        go_loopw [17] (fun j wz => ∃ jj : Nat, jj ≤ n ∧ j = .int .i64 jj ∧ Hid (LsX w M m0 o nb r q B X l c n n (mkj y.block pl jj) vs (.slice a1 n c1) (.slice a2 n c2) wz) ∧ Hid (Blk wz pb 41 #[.int .i64 y.kind, .int .i64 y.block, .slice A ln cA])) (fun j _ => n - (intOf j).toNat)
        case atStart => exact ⟨0, by omega, rfl, HX0, HBx⟩
        case round =>
          obtain ⟨jj, hjn, rfl, hLx, hBx⟩ := hrel
          clear HX0 z0 z2
          by_cases hj : jj < n
          · have jl : (jj : Int) < (n : Int) := by omega
            obtain ⟨g1, cap, e1, -, -⟩ := hLx.out.o1.form (by omega)
            injection e1 with e1 e2 e3
            subst e1 e3
            clear e2
            have hjp : jj < pl.length := by rw [HPl.out]; exact hj
            have hjl : jj < (mkj y.block pl jj).length := by rw [mkj_len]; exact hjp
            have ca := own_cell hLx.out.o1 (flat2_at _ jj hjl).1
            have cb : wr.cell? ⟨pb, 1, none⟩ = some (.int .i64 y.block) := hBx.out.cell 1
            rw [mkj_at y.block pl jj hjp hjl] at ca
            have lca := fun m' : Later wr => m'.cell ca
            have lcb := fun m' : Later wr => m'.cell cb
            obtain ⟨u, hu⟩ : ∃ u, pl[jj].1 = u := ⟨_, rfl⟩
            rw [hu] at ca lca
            by_cases e : u = y.block
            · have te : (u == y.block) = true := beq_iff_eq.2 e
              have HNx : Hid (mkj y.block pl (jj + 1) = (mkj y.block pl jj).set jj (-1, (mkj y.block pl jj)[jj].2)) := Lib.hid (by rw [mkj_at y.block pl jj hjp hjl]; exact (mkj_yes y.block pl jj hjp (hu.trans e)).symm)
              clear e hu hjp
              go_upto_region 22 with (fail)
              refine wp_region_later (by kernel_rfl) (by kernel_rfl) ?_
              repeat (go_big_quiet_step (fail))
              refine wpQuiet_nil ?_
              rintro _ ⟨m', rfl⟩
              have ca' := m'.cell ca
              have hLx2 := hLx.out.below m'.bel
              have fz := own_froz hLx2.o1 (jj * 2)
              have HM := Lib.hid (hLx2.mark jj hjl (-1))
              have HBm : Hid (Blk (m'.to.setCell ⟨g1, jj * 2, none⟩ (.int .i64 (-1))) pb 41 #[.int .i64 y.kind, .int .i64 y.block, .slice A ln cA]) := Lib.hid ((hBx.out.below m'.bel hBx.out.lt).far (fun e => HPb.out.2.1 g1 rfl e.symm) _)
              rw [← HNx.out] at HM
              clear hLx hBx hLx2 lca lcb ca cb hjl HNx
              go_wp2
              go_roundw
              case rel => exact ⟨jj + 1, by omega, by go_num, HM, HBm⟩
              case measure => simp [intOf]; omega
            · have te : (u == y.block) = false := beq_eq_false_iff_ne.2 e
              have HNx : Hid (mkj y.block pl jj = mkj y.block pl (jj + 1)) := Lib.hid (mkj_no y.block pl jj hjp (by rw [hu]; exact e))
              clear e hu hjp
              go_upto_region 22 with (fail)
              refine wp_region_later (by kernel_rfl) (by kernel_rfl) ?_
              repeat (go_big_quiet_step (fail))
              refine wpQuiet_nil ?_
              rintro _ ⟨m', rfl⟩
              have HM := Lib.hid (hLx.out.below m'.bel)
              have HBm := Lib.hid (hBx.out.below m'.bel hBx.out.lt)
              rw [HNx.out] at HM
              clear hLx hBx lca lcb ca cb hjl HNx
              go_wp2
              go_roundw
              case rel => exact ⟨jj + 1, by omega, by go_num, HM, HBm⟩
              case measure => simp [intOf]; omega
          · have jl : ¬ (jj : Int) < (n : Int) := by omega
            have ejn : jj = n := by omega
            have hLx3 := hLx.out
            rw [ejn, ← HPl.out, mkj_all] at hLx3
            have HPy := Lib.hid (splays_any (m0 := { m0 with l := l }) hLx3.pr (HG.out.marks y.block) y (Gz.zc (fun _ i h1 h0 => mnF_ne i h1 h0)) HK1.out A ln cA)
            have hop2 : o.p = .pointer (some ⟨o.bc, 0, none⟩) := rfl
            rw [hop2] at HPy
            rw [HPl.out] at hLx3
            have HX := Lib.hid hLx3
            have z0 : wr.cell? ⟨pb, 0, none⟩ = some (.int .i64 y.kind) := hBx.out.cell 0
            have z1 : wr.cell? ⟨pb, 1, none⟩ = some (.int .i64 y.block) := hBx.out.cell 1
            have z2 : wr.cell? ⟨pb, 2, none⟩ = some (.slice A ln cA) := hBx.out.cell 2
            clear hLx hLx3 hop2 ejn hjn hj
            go_wp2_with fail
            refine HPy.out.mono ?_
            rintro e w5 ⟨⟨t, rfl⟩, ⟨l', c', hp5, hg5, hn5⟩, hk5⟩
            have HEnd : Hid (LsH w M m0 o nb r q B n (.slice a1 n c1) (.slice a2 n c2) w5) := Lib.hid ⟨X, l', c', pl.map (mnF y.block), tl, vs, HX.out.call hp5 (hn5.trans HX.out.cn) (by rw [HX.out.cn] at hk5; exact hk5), hg5, HTx.out, by rw [List.length_map]; exact HPl.out⟩
            clear hp5 hg5 hn5 hk5 HPy HX z0 z1 z2
            go_wp2
            go_roundw
            case rel => exact ⟨k + 1, n, _, _, _, _, by omega, by omega, by go_num, rfl, rfl, HEnd⟩
            case measure => simp [intOf]; omega
    · have kl : ¬ (k : Int) < (m : Int) := by omega
      obtain ⟨X, l, c, pl, tl, vs, hx, hgz, htx, hpl⟩ := hL.out
      have HSt := Lib.hid (start_any hx.pr.ch)
      have hop2 : o.p = .pointer (some ⟨o.bc, 0, none⟩) := rfl
      rw [hop2] at HSt
      have HX := Lib.hid hx
      have HG := Lib.hid hgz
      have HTx := Lib.hid htx
      have HPl := Lib.hid hpl
      clear hx hgz htx hpl hL hop2
      go_wp2_with fail
      refine HSt.out.mono ?_
      rintro e w5 ⟨rfl, hc5, hk5⟩
      have hx5 := HX.out.call (Pr.own (m := { m0 with l := l }) (l' := l) HX.out.pr (HX.out.pr.mg.kp hk5 HX.out.pr.oM HX.out.pr.og) hc5 (hk5.mono (fun b hb => .inl hb)) rfl ⟨rfl, rfl, rfl⟩) HX.out.cn (hk5.mono (fun b hb => .inl (.inl (by rw [← HX.out.cn]; exact hb))))
      have HS5 : Hid (RdS w M m0 o nb r q B n X l pl tl vs (.slice a1 n c1) (.slice a2 n c2) w5) := Lib.hid ⟨_, hx5, HG.out, rfl⟩
      clear hc5 hk5 hx5 HSt HX HG
      go_wp2_with fail
      go_loopw [18] (fun j wr => ∃ jj : Nat, jj ≤ n ∧ j = .int .i64 jj ∧ Hid (RdS w M m0 o nb r q B n X l pl tl vs (.slice a1 n c1) (.slice a2 n c2) wr)) (fun j _ => n - (intOf j).toNat)
      case atStart => exact ⟨0, by omega, rfl, HS5⟩
      case round =>
        obtain ⟨jj, hjn, rfl, hS⟩ := hrel
        clear HS5
        by_cases hj : jj < n
        · have jl : (jj : Int) < (n : Int) := by omega
          obtain ⟨c', hx', hg', hu'⟩ := hS.out
          obtain ⟨g1, cap, e1, -, -⟩ := hx'.o1.form (by omega)
          injection e1 with e1 e2 e3
          subst e1 e3
          clear e2
          obtain ⟨g2, cap2, e1, -, -⟩ := hx'.o2.form (by omega)
          injection e1 with e1 e2 e3
          subst e1 e3
          clear e2
          have hjp : jj < pl.length := by rw [HPl.out]; exact hj
          have hjt : jj < tl.length := by rw [← hg'.1]; exact hjp
          obtain ⟨u, hu⟩ : ∃ u, pl[jj].1 = u := ⟨_, rfl⟩
          obtain ⟨v, hv⟩ : ∃ v, pl[jj].2 = v := ⟨_, rfl⟩
          have ca := own_cell hx'.o1 (flat2_at _ jj hjp).1
          rw [hu] at ca
          by_cases h0 : u < 0
          · have t0 : decide (u < 0) = true := decide_eq_true h0
            clear hx' hg' hu' h0
            go_wp2
            go_roundw
            case rel => exact ⟨jj + 1, by omega, by go_num, hS⟩
            case measure => simp [intOf]; omega
          have t0 : decide (u < 0) = false := decide_eq_false h0
          obtain ⟨A, cA, ht1, ht2⟩ := HTx.out.2 jj hjt
          obtain ⟨T, hT⟩ : ∃ T, tl[jj] = T := ⟨_, rfl⟩
          rw [hT] at ht1 ht2
          have HRd : Hid (∀ W, RdS w M m0 o nb r q B n X l pl tl vs (.slice (some ⟨g1, 0, none⟩) n c1) (.slice (some ⟨g2, 0, none⟩) n c2) W → Calls Try.prog 13 #[.pointer (some ⟨o.bc, 0, none⟩), .int .i64 u, .int .i64 v] W fun e w' =>
              (∃ gb cc, e = .returned (.tuple #[.slice (some ⟨gb, 0, none⟩) T.length cc, .int .i64 0]) ∧ Rw w' (some ⟨gb, 0, none⟩) T) ∧ RdS w M m0 o nb r q B n X l pl tl vs (.slice (some ⟨g1, 0, none⟩) n c1) (.slice (some ⟨g2, 0, none⟩) n c2) w') := Lib.hid (fun W hW => by
            have := rds_read hW jj hjp hjt (by rw [hu]; omega)
            rw [hu, hv, hT] at this
            exact this)
          have HCe : Hid (∀ W, RdS w M m0 o nb r q B n X l pl tl vs (.slice (some ⟨g1, 0, none⟩) n c1) (.slice (some ⟨g2, 0, none⟩) n c2) W → W.cell? ⟨g1, jj * 2, none⟩ = some (.int .i64 u) ∧ W.cell? ⟨g1, jj * 2 + 1, none⟩ = some (.int .i64 v) ∧ W.cell? ⟨g2, jj, none⟩ = some (.slice A T.length cA) ∧ Rw W A T) := Lib.hid (fun W hW => by
            obtain ⟨c9, h9, -, -⟩ := hW
            exact ⟨by rw [← hu]; exact own_cell h9.o1 (flat2_at _ jj hjp).1, by rw [← hv]; exact own_cell h9.o1 (flat2_at _ jj hjp).2, own_cell h9.o2 ht1, ht2.below h9.bel⟩)
          obtain ⟨nT, hnT⟩ : ∃ nT, T.length = nT := ⟨_, rfl⟩
          have HnT := Lib.hid hnT
          rw [hnT] at HRd HCe
          clear hx' hg' hu' h0 hu hv hT ht1 ht2 hnT
          go_upto_region 30 with (fail)
          refine wp_region_held_drew (S := RdS w M m0 o nb r q B n X l pl tl vs (.slice (some ⟨g1, 0, none⟩) n c1) (.slice (some ⟨g2, 0, none⟩) n c2)) (by kernel_rfl) (hS.out.below (Below.refl _ _).drew) (fun hHeld => ?_)
          refine wpAnyH_take (i := 0) (v := .pointer (some ⟨o.bc, 0, none⟩)) rfl (by kernel_rfl) (by kernel_rfl) (by kernel_rfl) (fun _ _ _ h => h) (Or.inl ⟨by kernel_rfl, ?_⟩) hHeld ?_
          · intro w' hSw
            obtain ⟨x1, x2, -, -⟩ := HCe.out w' hSw
            go_simp
          refine wpAnyH_take (i := 1) (v := .slice (some ⟨g1, 0, none⟩) n c1) rfl (by kernel_rfl) (by kernel_rfl) (by kernel_rfl) (fun _ _ _ h => h) (Or.inl ⟨by kernel_rfl, ?_⟩) hHeld ?_
          · intro w' hSw
            obtain ⟨x1, x2, -, -⟩ := HCe.out w' hSw
            go_simp
          refine wpAnyH_take (i := 2) (v := .int .i64 jj) rfl (by kernel_rfl) (by kernel_rfl) (by kernel_rfl) (fun _ _ _ h => h) (Or.inl ⟨by kernel_rfl, ?_⟩) hHeld ?_
          · intro w' hSw
            obtain ⟨x1, x2, -, -⟩ := HCe.out w' hSw
            go_simp
          refine wpAnyH_take (i := 3) (v := .pointer (some ⟨g1, jj * 2, none⟩)) rfl (by kernel_rfl) (by kernel_rfl) (by kernel_rfl) (fun _ _ _ h => h) (Or.inl ⟨by kernel_rfl, ?_⟩) hHeld ?_
          · intro w' hSw
            obtain ⟨x1, x2, -, -⟩ := HCe.out w' hSw
            go_simp
          refine wpAnyH_take (i := 4) (v := .pointer (some ⟨g1, jj * 2, none⟩)) rfl (by kernel_rfl) (by kernel_rfl) (by kernel_rfl) (fun _ _ _ h => h) (Or.inl ⟨by kernel_rfl, ?_⟩) hHeld ?_
          · intro w' hSw
            obtain ⟨x1, x2, -, -⟩ := HCe.out w' hSw
            go_simp
          refine wpAnyH_take (i := 5) (v := .int .i64 u) rfl (by kernel_rfl) (by kernel_rfl) (by kernel_rfl) (fun _ _ _ h => h) (Or.inl ⟨by kernel_rfl, ?_⟩) hHeld ?_
          · intro w' hSw
            obtain ⟨x1, x2, -, -⟩ := HCe.out w' hSw
            go_simp
          refine wpAnyH_take (i := 6) (v := .slice (some ⟨g1, 0, none⟩) n c1) rfl (by kernel_rfl) (by kernel_rfl) (by kernel_rfl) (fun _ _ _ h => h) (Or.inl ⟨by kernel_rfl, ?_⟩) hHeld ?_
          · intro w' hSw
            obtain ⟨x1, x2, -, -⟩ := HCe.out w' hSw
            go_simp
          refine wpAnyH_take (i := 7) (v := .int .i64 jj) rfl (by kernel_rfl) (by kernel_rfl) (by kernel_rfl) (fun _ _ _ h => h) (Or.inl ⟨by kernel_rfl, ?_⟩) hHeld ?_
          · intro w' hSw
            obtain ⟨x1, x2, -, -⟩ := HCe.out w' hSw
            go_simp
          refine wpAnyH_take (i := 8) (v := .pointer (some ⟨g1, jj * 2, none⟩)) rfl (by kernel_rfl) (by kernel_rfl) (by kernel_rfl) (fun _ _ _ h => h) (Or.inl ⟨by kernel_rfl, ?_⟩) hHeld ?_
          · intro w' hSw
            obtain ⟨x1, x2, -, -⟩ := HCe.out w' hSw
            go_simp
          refine wpAnyH_take (i := 9) (v := .pointer (some ⟨g1, jj * 2 + 1, none⟩)) rfl (by kernel_rfl) (by kernel_rfl) (by kernel_rfl) (fun _ _ _ h => h) (Or.inl ⟨by kernel_rfl, ?_⟩) hHeld ?_
          · intro w' hSw
            obtain ⟨x1, x2, -, -⟩ := HCe.out w' hSw
            go_simp
          refine wpAnyH_take (i := 10) (v := .int .i64 v) rfl (by kernel_rfl) (by kernel_rfl) (by kernel_rfl) (fun _ _ _ h => h) (Or.inl ⟨by kernel_rfl, ?_⟩) hHeld ?_
          · intro w' hSw
            obtain ⟨x1, x2, -, -⟩ := HCe.out w' hSw
            go_simp
          try simp only [Act.put, List.setIfInBounds_toArray]
          refine wpAnyH_ready (rs := [11]) (by kernel_rfl) (by simp) ?_
          refine AllReadyH.cons rfl (fun K hK => ?_) AllReadyH.nil
          go_simp
          refine (HRd.out _ hHeld).mono ?_
          rintro e w7 ⟨⟨gb, cc, rfl, hRw7⟩, hS7⟩
          refine hK.out _ _ hS7 (fun hHeld7 => ?_)
          clear hK
          try simp only [Act.put, List.setIfInBounds_toArray, List.set]
          refine wpAnyH_take (i := 12) (v := .tuple #[.slice (some ⟨gb, 0, none⟩) nT cc, .int .i64 0]) rfl (by kernel_rfl) (by kernel_rfl) (by kernel_rfl) (fun _ _ _ h => h) (Or.inl ⟨by kernel_rfl, ?_⟩) hHeld7 ?_
          · intro w' hSw
            obtain ⟨x1, x2, -, -⟩ := HCe.out w' hSw
            go_simp
          refine wpAnyH_take (i := 13) (v := .slice (some ⟨gb, 0, none⟩) nT cc) rfl (by kernel_rfl) (by kernel_rfl) (by kernel_rfl) (fun _ _ _ h => h) (Or.inl ⟨by kernel_rfl, ?_⟩) hHeld7 ?_
          · intro w' hSw
            obtain ⟨x1, x2, -, -⟩ := HCe.out w' hSw
            go_simp
          refine wpAnyH_take (i := 14) (v := .int .i64 0) rfl (by kernel_rfl) (by kernel_rfl) (by kernel_rfl) (fun _ _ _ h => h) (Or.inl ⟨by kernel_rfl, ?_⟩) hHeld7 ?_
          · intro w' hSw
            obtain ⟨x1, x2, -, -⟩ := HCe.out w' hSw
            go_simp
          refine wpAnyH_take (i := 15) (v := .slice (some ⟨gb, 0, none⟩) nT cc) rfl (by kernel_rfl) (by kernel_rfl) (by kernel_rfl) (fun _ _ _ h => h) (Or.inl ⟨by kernel_rfl, ?_⟩) hHeld7 ?_
          · intro w' hSw
            obtain ⟨x1, x2, -, -⟩ := HCe.out w' hSw
            go_simp
          refine wpAnyH_take (i := 16) (v := .int .i64 0) rfl (by kernel_rfl) (by kernel_rfl) (by kernel_rfl) (fun _ _ _ h => h) (Or.inl ⟨by kernel_rfl, ?_⟩) hHeld7 ?_
          · intro w' hSw
            obtain ⟨x1, x2, -, -⟩ := HCe.out w' hSw
            go_simp
          refine wpAnyH_done (by kernel_rfl) ?_ _
          obtain ⟨-, -, cb, hRt⟩ := HCe.out _ hHeld7
          have HSm := Lib.hid (sameS_any (some ⟨gb, 0, none⟩) A cc cA nT nT T T w7 hRw7 hRt HnT.out HnT.out)
          rw [decide_eq_true (rfl : T = T)] at HSm
          have HS7 := Lib.hid hHeld7
          clear hRw7 hRt hS7 hHeld7 hHeld ca
          go_wp2_with fail
          refine HSm.out.mono ?_
          rintro e w8 ⟨rfl, rfl⟩
          go_wp2
          go_roundw
          case rel => exact ⟨jj + 1, by omega, by go_num, HS7⟩
          case measure => simp [intOf]; omega
        · have jl : ¬ (jj : Int) < (n : Int) := by omega
          have HBe : Hid (Below w.heap.size w wr) := Lib.hid (by obtain ⟨_, h9, -⟩ := hS.out; exact h9.bel)
          go_wp2_with fail
          refine (HKn.out _).mono ?_
          rintro e w' ⟨rfl, hb9⟩
          have HB9 := Lib.hid (HBe.out.trans (hb9.mono HBe.out.size))
          clear hb9
          go_wp2
          go_ret
          exact ⟨rfl, HB9.out⟩
end Go.Proofs.Ytnnpdlebgfjihaa

/-
  The law BlkReads, its arguments as the frame hands them.
-/
namespace Go.Proofs.Ytnnpdlebgfjihaa
open Go.RowKit Crcm Gcm

theorem blkReads_walk (s : Su) (a : Sa) (a1 : Option Addr) (l1 c1 : Nat) (z1 : List Bo) (w : World) (hs : SuAt w s a) (ho : RoB w a1 z1) (hl : z1.length = l1) :
    Calls Try.prog 3 #[.agg (suC s a), .slice a1 l1 c1] w fun e w' => e = .returned (.bool true) ∧ Below w.heap.size w w' :=
  blkReads_core s a a1 l1 c1 z1 w hs ho hl
end Go.Proofs.Ytnnpdlebgfjihaa
