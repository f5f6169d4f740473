/-
  A chip of loaded pages told whole: what Dump hands over can be loaded again. Nothing of one statement alone stands here.
-/
import Derived.Test.YtiaaeiefgnoiaaaLdRef
import Derived.OwnWalk
import Derived.Maps.AppendAt
namespace Go.Proofs.Ytiaaeiefgnoiaaa
open Go.RowKit Crcm Go.ChangeShapes

theorem own_slice2 {w : World} {base n : Nat} {e : TypeId} {v : Value} {xs : List Value} (h : w.ownsRow base e 1 v n xs) (hn : 0 < n) : ∃ g cap, v = .slice (some ⟨g, 0, none⟩) n cap ∧ n ≤ cap := by
  rcases h.2 with ⟨-, h0⟩ | ⟨g, cap, cur, h0, -, -, hc, -⟩
  · omega
  · exact ⟨g, cap, h0, hc⟩

set_option maxRecDepth 100000 in
set_option maxHeartbeats 4000000 in
theorem dump2_any {w : World} {o : Own} {c : Ch} (h : Dc w o c) :
    Calls Try.prog 12 #[o.p] w fun e w' => (∃ gp cp gb cb gw cw, e = .returned (.tuple #[.slice (some ⟨gp, 0, none⟩) (c.nb * c.np) cp, .slice (some ⟨gb, 0, none⟩) c.nb cb, .slice (some ⟨gw, 0, none⟩) c.nb cw]) ∧ c.nb * c.np ≤ cp ∧
      Rl w' (some ⟨gp, 0, none⟩) (allp c c.nb) ∧ (∀ i, i < c.nb → w'.cell? ⟨gb, i, none⟩ = some (.bool (c.bad i))) ∧ ∀ i, i < c.nb → w'.cell? ⟨gw, i, none⟩ = some (.int .i64 (c.wear i))) ∧ Below w.heap.size w w' := by
  obtain ⟨i0, hi, hz0, hz1, hz2⟩ := info_parts Try.infoPg
  obtain ⟨i1, hi1, hy0, hy1, hy2⟩ := info_parts Try.infoBoD
  obtain ⟨i2, hi2, hx0, hx1, hx2⟩ := info_parts Try.infoInD
  have hgd := h.good
  unfold Gd at hgd
  obtain ⟨nb, hnb⟩ : ∃ nb, c.nb = nb := ⟨_, rfl⟩
  obtain ⟨np, hnp⟩ : ∃ np, c.np = np := ⟨_, rfl⟩
  have h1 : 7 < nb ∧ nb < 129 := by omega
  have h2 : 3 < np ∧ np < 33 := by omega
  have HNb := Lib.hid hnb
  have HNp := Lib.hid hnp
  have H := Lib.hid h
  obtain ⟨cp0, r3⟩ := h.row
  have hop : o.p = .pointer (some ⟨o.bc, 0, none⟩) := rfl
  rw [hop]
  rw [hnb] at r3 ⊢
  rw [hnp]
  have HI0 : Hid (DpI w.heap.size w c 0 0 0 (.slice none 0 0) (.slice none 0 0) (.slice none 0 0)) := Lib.hid ⟨Nat.le_refl _, ⟨[], by rw [Nat.zero_mul]; exact World.ownsRow_nil .., fun i hi => by omega⟩, World.ownsRow_nil .., World.ownsRow_nil ..⟩
  clear h hgd hnb hnp hop
  go_enter Try.func12, Try.ntmps12
  go_wp2_with fail
  go_loopw [5, 6, 7, 17] (fun vp vb vw i wr => ∃ k : Nat, k ≤ nb ∧ i = .int .i64 k ∧ Hid (DpI w.heap.size wr c k k k vp vb vw) ∧ Hid (Below w.heap.size w wr)) (fun _ _ _ i _ => nb - (intOf i).toNat)
  case atStart => exact ⟨0, Nat.zero_le _, rfl, HI0, Lib.hid (Below.refl _ _)⟩
  case round =>
    obtain ⟨k, hkn, rfl, hI, hB⟩ := hrel
    by_cases hlt : k < nb
    · have hlt' : (k : Int) < (nb : Int) := by omega
      have k0 : (0 : Int) ≤ (k : Int) := by omega
      have hkc : k < c.nb := by rw [HNb.out]; exact hlt
      have hD := H.out.below hB.out
      obtain ⟨b0, b1, b2, b3⟩ := hD.blk k hkc
      have hrows := hD.rows k hkc
      have hsm := H.out.small k hkc
      rw [HNp.out] at b0
      have HS := Lib.hid hsm
      have hal := (Below.refl wr.heap.size wr).alloc (Nat.le_refl _) (.cells #[.slice (some ⟨o.pb k, 0, none⟩) np np, .bool (c.broken k), .bool (c.bad k), .int .i64 (c.wear k)] 75)
      have HR := Lib.hid (hrows.below hal)
      have HBk := Lib.hid (Blk.new wr 75 #[.slice (some ⟨o.pb k, 0, none⟩) np np, .bool (c.broken k), .bool (c.bad k), .int .i64 (c.wear k)])
      have HB1 := Lib.hid (hB.out.trans (hal.mono hB.out.size))
      have HI1 := Lib.hid (hI.out.below hal)
      clear hD hrows hsm hal
      go_upto_region 9 with (fail)
      generalize (wr.alloc (.cells #[.slice (some ⟨o.pb k, 0, none⟩) np np, .bool (c.broken k), .bool (c.bad k), .int .i64 (c.wear k)] 75)) = w1 at HR HBk HB1 HI1 ⊢
      obtain ⟨fb, hfb⟩ : ∃ fb, wr.heap.size = fb := ⟨_, rfl⟩
      rw [hfb] at HBk ⊢
      have x0 : w1.cell? ⟨fb, 0, none⟩ = some (.slice (some ⟨o.pb k, 0, none⟩) np np) := HBk.out.cell 0
      have HCo := Lib.hid (copied_any (some ⟨o.pb k, 0, none⟩) np np (pgs c k) w1 HR.out (by rw [pgs_len, HNp.out]) (by omega) HS.out)
      clear hfb b0 b1 b2 b3 hI hB HR HS
      go_wp2_with fail
      refine HCo.out.mono ?_
      rintro e w2 ⟨rfl, hrn, hb2⟩
      have hI2 := HI1.out.below hb2
      have HB2 := Lib.hid (HB1.out.trans (hb2.mono HB1.out.size))
      have HBk2 := Lib.hid (HBk.out.below hb2 HBk.out.lt)
      obtain ⟨ps, hps, hpp⟩ := hI2.ps
      obtain ⟨cs, hcs, hcz, hcv⟩ := hrn.all (by rw [pgs_len, HNp.out])
      have hcz2 : cs.size = np := by rw [hcz, pgs_len, HNp.out]
      have hnew : ∀ i, i < c.np → ∃ v, cs.toList[i]? = some v ∧ PgX w2 (DX u5 u6 u7) v (pgs c k)[i]! := fun i hi => by
        obtain ⟨v, g1, g2⟩ := hcv i (by rw [pgs_len]; exact hi)
        exact ⟨v, by rw [Array.getElem?_toList]; exact g1, g2.pgx (fun b hb => Nat.lt_succ_of_lt (HI1.out.lt b hb).2)⟩
      have HOne : Hid (∀ u ∈ cs.toList, u.oneCell' = true) := Lib.hid (fun u hu => by
        obtain ⟨i, hi, rfl⟩ := List.getElem_of_mem hu
        have hi2 : i < c.np := by rw [Array.length_toList] at hi; rw [HNp.out]; omega
        obtain ⟨v, g1, A, cc, g2, -⟩ := hnew i hi2
        rw [List.getElem?_eq_getElem hi] at g1
        injection g1 with g1
        rw [g1, g2]; rfl)
      have hps2 : w2.ownsRow w.heap.size 27 1 u5 (k * np) ps := by have := hps; rw [HNp.out] at this; exact this
      have HPs := Lib.hid hps2
      have HPush := Lib.hid (fun (w' : World) v' h1 hg hl => hI2.pushP (w' := w') (v' := v') hps hpp hnew h1 hg hl)
      rw [HNp.out] at HPush
      have HC2 : Hid (∀ j u, cs.toList[j]? = some u → w2.cell? ((⟨w1.heap.size, 0, none⟩ : Addr).add j) = some u) := Lib.hid (fun j u hu => by
        rw [Addr.add_lit, Nat.zero_add]
        exact (hcs.cell j).trans (by rw [← hu, Array.getElem?_toList]))
      have HLn : Hid (cs.toList.length = np * 1) := Lib.hid (by rw [Array.length_toList, hcz2, Nat.mul_one])
      have hkn2 : k * np ≤ 128 * 32 := Nat.mul_le_mul (by omega) (by omega)
      have HK := Lib.hid hkn2
      clear hI2 hps hpp hcs hcz hcv hcz2 hnew hps2 hrn hb2 x0 HCo HBk HB1 HI1 hkn2
      go_wp2_with (at_builtin; refine wpList_append_own_at _ rfl _ _ 24 rfl w.heap.size 27 i0 (.slice none 0 0) 1 24 Try.underlying24 hi hz0 hz1 hz2 rfl (by decide) _ _ _ rfl HPs.out ⟨w1.heap.size, 0, none⟩ np np cs.toList rfl HLn.out HC2.out HOne.out ?c1 ?c2 HB2.out.size ?_)
      case c1 => have := HK.out; unfold maxLen; omega
      case c2 => have := HK.out; omega
      intro v' w3 h1 hg _ hl
      have HI3 := Lib.hid (HPush.out w3 v' h1 hg hl)
      have hb3 : Below w.heap.size w w3 := HB2.out.trans ((kp_grown hg).below (fun b e => (HPs.out.lt b e).1) HB2.out.size)
      have hne3 : u5.ownBlock ≠ some fb := fun e => by
        rcases HPs.out.2 with ⟨h0, -⟩ | ⟨g, cap, cur, h0, -, hgg, -⟩
        · rw [h0] at e; simp [Value.ownBlock] at e
        · rw [h0] at e
          simp [Value.ownBlock] at e
          subst e
          rw [show w2.heap[g]? = _ from HBk2.out] at hgg
          injection hgg with hgg
          injection hgg with _ q
          exact absurd q (by decide)
      have HBk3 : Hid (Blk w3 fb 75 #[.slice (some ⟨o.pb k, 0, none⟩) np np, .bool (c.broken k), .bool (c.bad k), .int .i64 (c.wear k)]) := Lib.hid (HBk2.out.kp (kp_grown hg) hne3)
      have HB3 := Lib.hid hb3
      clear h1 hg hl hb3 hne3 HPush HC2 HLn HOne HPs HB2 HBk2
      have x2 : w3.cell? ⟨fb, 2, none⟩ = some (.bool (c.bad k)) := HBk3.out.cell 2
      go_wp2_with (at_builtin; refine wpList_append_own_at _ rfl _ _ 25 rfl w.heap.size 4 i1 (.bool false) 1 1 Try.underlying25 hi1 hy0 hy1 hy2 rfl (by decide) _ _ _ rfl (HI3.out.b.alloc _) ⟨w3.heap.size, 0, none⟩ 1 1 [.bool (c.bad k)] rfl rfl (cell_one_new _ _ _) ?c1 ?c2 ?c3 ?c4 ?_)
      case c1 => intro u hu; simp at hu; subst hu; rfl
      case c2 => unfold maxLen; omega
      case c3 => omega
      case c4 => rw [World.size_alloc]; have := HB3.out.size; omega
      intro v2 w4 h1 hg _ hl
      have HI4 := Lib.hid (HI3.out.pushB h1 hg (by rw [World.size_alloc]; exact hl))
      have hb4 : Below w.heap.size w w4 := (HB3.out.alloc HB3.out.size _).trans ((kp_grown hg).below (fun b e => (HI3.out.b.lt b e).1) (by rw [World.size_alloc]; have := HB3.out.size; omega))
      have hne4 : u6.ownBlock ≠ some fb := fun e => by
        rcases HI3.out.b.2 with ⟨h0, -⟩ | ⟨g, cap, cur, h0, -, hgg, -⟩
        · rw [h0] at e; simp [Value.ownBlock] at e
        · rw [h0] at e
          simp [Value.ownBlock] at e
          subst e
          rw [show w3.heap[g]? = _ from HBk3.out] at hgg
          injection hgg with hgg
          injection hgg with _ q
          exact absurd q (by decide)
      have HBk4 : Hid (Blk w4 fb 75 #[.slice (some ⟨o.pb k, 0, none⟩) np np, .bool (c.broken k), .bool (c.bad k), .int .i64 (c.wear k)]) := Lib.hid ((HBk3.out.alloc _).kp (kp_grown hg) hne4)
      have HB4 := Lib.hid hb4
      clear h1 hg hl hb4 hne4 HI3 HB3 HBk3 x2
      have x3 : w4.cell? ⟨fb, 3, none⟩ = some (.int .i64 (c.wear k)) := HBk4.out.cell 3
      go_wp2_with (at_builtin; refine wpList_append_own_at _ rfl _ _ 26 rfl w.heap.size 3 i2 (.int .i64 0) 1 8 Try.underlying26 hi2 hx0 hx1 hx2 rfl (by decide) _ _ _ rfl (HI4.out.w.alloc _) ⟨w4.heap.size, 0, none⟩ 1 1 [.int .i64 (c.wear k)] rfl rfl (cell_one_new _ _ _) ?c1 ?c2 ?c3 ?c4 ?_)
      case c1 => intro u hu; simp at hu; subst hu; rfl
      case c2 => unfold maxLen; omega
      case c3 => omega
      case c4 => rw [World.size_alloc]; have := HB4.out.size; omega
      intro v3 w5 h1 hg _ hl
      have HI5 := Lib.hid (HI4.out.pushW h1 hg (by rw [World.size_alloc]; exact hl))
      have HB5 : Hid (Below w.heap.size w w5) := Lib.hid ((HB4.out.alloc HB4.out.size _).trans ((kp_grown hg).below (fun b e => (HI4.out.w.lt b e).1) (by rw [World.size_alloc]; have := HB4.out.size; omega)))
      clear h1 hg hl HI4 HB4 HBk4 x3
      go_wp2
      go_roundw
      case rel => exact ⟨k + 1, by omega, by go_num, HI5, HB5⟩
      case measure => simp [intOf]; omega
    · have hkn2 : k = nb := by omega
      have hlt' : ¬ (k : Int) < (nb : Int) := by omega
      subst hkn2
      obtain ⟨ps, hps, hpp⟩ := hI.out.ps
      obtain ⟨gp, cp, rfl, hcap⟩ := own_slice2 hps (by rw [HNp.out]; exact Nat.mul_pos (by omega) (by omega))
      have HCap : Hid (k * np ≤ cp) := Lib.hid (by have := hcap; rw [HNp.out] at this; exact this)
      obtain ⟨gb, cb, rfl⟩ := own_slice hI.out.b (by omega)
      obtain ⟨gw, cw, rfl⟩ := own_slice hI.out.w (by omega)
      have HBb : Hid (∀ i, i < k → wr.cell? ⟨gb, i, none⟩ = some (.bool (c.bad i))) := Lib.hid (fun i hi => by rw [own_cells hI.out.b hi]; simp [bads, hi])
      have HWw : Hid (∀ i, i < k → wr.cell? ⟨gw, i, none⟩ = some (.int .i64 (c.wear i))) := Lib.hid (fun i hi => by rw [own_cells hI.out.w hi]; simp [wears, hi])
      have HRl : Hid (Rl wr (some ⟨gp, 0, none⟩) (allp c k)) := Lib.hid (.inr ⟨gp, 0, rfl, fun i hi => by
        rw [allp_len] at hi
        obtain ⟨v, g1, A, cc, rfl, g3, g4⟩ := hpp i hi
        rw [Nat.zero_add, own_cells hps hi]
        exact ⟨A, cc, g1, g3, g4.1⟩⟩)
      rw [HNp.out]
      clear hps hpp hI hcap
      go_wp2
      go_ret3
      exact ⟨⟨gp, cp, gb, cb, gw, ⟨cw, rfl⟩, HCap.out, HRl.out, HBb.out, HWw.out⟩, hB.out⟩

theorem ld_allp {nb np sz : Nat} (hg : Gd nb np sz) (ls : List (List Int)) (bs : List Bool) (ws : List Int) (h : ls.length = nb * np) : allp (ldC nb np sz ls bs ws) nb = ls := by
  have h1 := (ld_lk hg ls bs ws).s.pages (by show 0 < np; have := hg.2.2.1; omega)
  rw [show allp (ldC nb np sz ls bs ws) nb = allp (ldC nb np sz ls bs ws) (ldC nb np sz ls bs ws).nb from rfl, ← h1]
  apply List.ext_getElem
  · rw [rxp_len, h]; rfl
  · intro j h2 h3
    simp only [rxp, ldR, List.getElem_map, List.getElem_range]
    rw [if_pos (by omega), getElem!_pos ls j h3]
theorem ld_dump {w : World} {X : Nat → Prop} {o : Own} {nb np sz : Nat} {ls : List (List Int)} {bs : List Bool} {ws : List Int} (h : ChAt w X o (ldC nb np sz ls bs ws)) (hok : LdOk nb np sz ls bs ws) (n1 n2 n3 : Nat) (l1 : ls.length = n1) (l2 : bs.length = n2) (l3 : ws.length = n3) :
    Calls Try.prog 12 #[o.p] w fun e w' => (∃ gp cp gb cb gw cw, e = .returned (.tuple #[.slice (some ⟨gp, 0, none⟩) n1 cp, .slice (some ⟨gb, 0, none⟩) n2 cb, .slice (some ⟨gw, 0, none⟩) n3 cw]) ∧ n1 ≤ cp ∧
      Rl w' (some ⟨gp, 0, none⟩) ls ∧ Rbo w' (some ⟨gb, 0, none⟩) bs ∧ Ri w' (some ⟨gw, 0, none⟩) ws) ∧ Below w.heap.size w w' := by
  have hg : Gd nb np sz := h.good
  have e1 : n1 = nb * np := l1.symm.trans hok.1
  have e2 : n2 = nb := l2.symm.trans hok.2.1
  have e3 : n3 = nb := l3.symm.trans hok.2.2.1
  refine (dump2_any h.dc).mono ?_
  rintro e w' ⟨⟨gp, cp, gb, cb, gw, cw, rfl, hcap, hrl, hbb, hww⟩, hb⟩
  rw [show (ldC nb np sz ls bs ws).nb = nb from rfl, ld_allp hg ls bs ws hok.1] at hrl
  refine ⟨⟨gp, cp, gb, cb, gw, cw, ?_, by rw [e1]; exact hcap, hrl, .inr ⟨gb, 0, rfl, fun j hj => ?_⟩, ⟨?_, .inr ⟨gw, 0, rfl, fun j hj => ?_⟩⟩⟩, hb⟩
  · rw [e1, e2, e3]; rfl
  · rw [Nat.zero_add]
    exact hbb j (by show j < nb; rw [← e2, ← l2]; exact hj)
  · have h1 := hg.2.1
    unfold maxLen
    omega
  · rw [Nat.zero_add]
    have := hww j (by show j < nb; rw [← e3, ← l3]; exact hj)
    rw [this]
    show some (Value.int .i64 ws[j]!) = _
    rw [getElem!_pos ws j hj]

end Go.Proofs.Ytiaaeiefgnoiaaa
