/-
  A chip copied: the program's call Copy; and whether two rows of pages are the same.
-/
import Derived.Test.YtiaaeiefgnoiaaaNandDump
import Derived.Test.YtiaaeiefgnoiaaaNandAll
import Derived.Deep.CutRange
import Derived.Deep.DeepCutAuto
import Derived.Test.YtiaaeiefgnoiaaaLater
namespace Go.Proofs.Ytiaaeiefgnoiaaa
open Go.RowKit Crcm Go.ChangeShapes

set_option maxRecDepth 100000 in
set_option maxHeartbeats 1000000 in
theorem cloneb_any (bb nb : Nat) (cs : Array Value) (w : World) (h : Blk w bb 75 cs) (hs : cs.size = 4 * nb) (hn : 0 < nb ∧ nb ≤ 200) (h1 : ∀ u ∈ cs.toList, u.oneCell' = true) :
    Calls Try.prog 52 #[.slice (some ⟨bb, 0, none⟩) nb nb] w fun e w' => (∃ g cap cur, e = .returned (.slice (some ⟨g, 0, none⟩) nb cap) ∧ nb ≤ cap ∧ w.heap.size ≤ g ∧ Blk w' g 75 cur ∧ ∀ i, i < 4 * nb → cur[i]? = cs[i]?) ∧ Below w.heap.size w w' := by
  obtain ⟨i0, hi, hz0, hz1, hz2⟩ := info_parts Try.infoBk
  have en := fun W a n c => Lib.run_eql_slice_nil (P := Try.prog) W 70 75 a n c 0 0 Try.underlying70
  have HBk := Lib.hid h
  have HSz := Lib.hid hs
  have HN := Lib.hid hn
  have H1 := Lib.hid h1
  clear h hs hn h1
  go_enter Try.func52, Try.ntmps52
  have hown : Hid ((w.alloc (.cells #[] 75)).ownsRow w.heap.size 75 4 (.slice (some ⟨w.heap.size, 0, none⟩) 0 0) 0 []) := Lib.hid (World.ownsRow_lit w #[] 0 (Nat.le_refl _) (Nat.zero_le _) rfl)
  have HBX := Lib.hid ((Below.refl w.heap.size w).alloc (Nat.le_refl _) (.cells #[] 75))
  have HB2 := Lib.hid (HBk.out.alloc (.cells #[] 75))
  go_wp2_with (at_builtin; refine wpList_append_own _ rfl _ _ 70 rfl w.heap.size 75 i0 (.agg #[.slice none 0 0, .bool false, .bool false, .int .i64 0]) 4 40 Try.underlying70 hi hz0 hz1 hz2 rfl (by decide) _ _ _ rfl hown.out ⟨bb, 0, none⟩ nb nb cs.toList rfl (by rw [Array.length_toList, HSz.out, Nat.mul_comm]) ?c1 ?c2 ?c3 ?c4 ?c5 ?_)
  case c1 =>
    intro j u hu
    rw [Addr.add_lit, Nat.zero_add]
    exact (HB2.out.cell j).trans (by rw [← hu, Array.getElem?_toList])
  case c2 => exact H1.out
  case c3 => have := HN.out; unfold maxLen; omega
  case c4 => have := HN.out; omega
  case c5 => simp
  intro v' w2 hown2 hgrow _
  have HBe := Lib.hid (HBX.out.grown hgrow (by simp) (fun g hg => (hown.out.lt g hg).1))
  obtain ⟨hlen, hrow⟩ := hown2
  rcases hrow with ⟨-, h0⟩ | ⟨g, cap, cur, rfl, hg, hheap, hcur, hcap, hsz, ht⟩
  · have := HN.out; omega
  have HC : Hid (Blk w2 g 75 cur ∧ ∀ i, i < 4 * nb → cur[i]? = cs[i]?) := Lib.hid ⟨hheap, fun i hin => by
    have e : cur[i]? = (cur.toList.take (nb * 4))[i]? := by rw [List.getElem?_take, if_pos (by omega), Array.getElem?_toList]
    have ht2 : cur.toList.take (nb * 4) = cs.toList := by have := ht; simpa using this
    rw [e, ht2]
    simp⟩
  have HG := Lib.hid hg
  have HCp : Hid (nb ≤ cap) := Lib.hid (by have := hcur; omega)
  clear hgrow hheap hcur hcap hsz ht hlen hg
  go_wp2
  go_ret
  refine ⟨⟨g, cap, ⟨cur, by simp, HCp.out, HG.out, HC.out.1, HC.out.2⟩⟩, HBe.out⟩

/-- the copy while its pages are copied -/
structure CpI (w wr : World) (o : Own) (c : Ch) (D G cp : Nat) (fv : Value) (k : Nat) : Prop where
  bel : Below w.heap.size w wr
  old : w.heap.size = D
  lt : D < G
  le : c.nb ≤ cp
  chip : Blk wr D 72 #[.int .i64 c.nb, .int .i64 c.np, .int .i64 c.sz, .slice (some ⟨G, 0, none⟩) c.nb cp, .bool c.up, fv, .int .i64 c.since, .int .i64 c.strokes, .int .i64 c.reads]
  rest : ∃ (pb : Nat → Nat) (cs : Array Value), Blk wr G 75 cs ∧ (∀ j, j < c.nb → cs[j * 4]? = some (.slice (some ⟨if j < k then pb j else o.pb j, 0, none⟩) c.np c.np) ∧ cs[j * 4 + 1]? = some (.bool (c.broken j)) ∧ cs[j * 4 + 2]? = some (.bool (c.bad j)) ∧ cs[j * 4 + 3]? = some (.int .i64 (c.wear j))) ∧
    ∀ j, j < k → G < pb j ∧ Rn wr (pb j + 1) (pb j) c.np (pgs c j)
theorem CpI.below {w wr w' : World} {o : Own} {c : Ch} {D G cp : Nat} {fv : Value} {k : Nat} (h : CpI w wr o c D G cp fv k) (hb : Below wr.heap.size wr w') : CpI w w' o c D G cp fv k := by
  obtain ⟨pb, cs, h1, h2, h3⟩ := h.rest
  exact ⟨h.bel.trans (hb.mono h.bel.size), h.old, h.lt, h.le, h.chip.below hb h.chip.lt, pb, cs, h1.below hb h1.lt, h2, fun j hj => ⟨(h3 j hj).1, (h3 j hj).2.below hb⟩⟩
theorem CpI.gl {w wr : World} {o : Own} {c : Ch} {D G cp : Nat} {fv : Value} {k : Nat} (h : CpI w wr o c D G cp fv k) : G < wr.heap.size := by
  obtain ⟨pb, cs, h1, -⟩ := h.rest
  exact h1.lt
theorem CpI.at {w wr : World} {o : Own} {c : Ch} {D G cp : Nat} {fv : Value} {k : Nat} (h : CpI w wr o c D G cp fv k) (hk : k < c.nb) : wr.cell? ⟨G, k * 4, none⟩ = some (.slice (some ⟨o.pb k, 0, none⟩) c.np c.np) ∧ wr.frozen? ⟨G, k * 4, none⟩ = false := by
  obtain ⟨pb, cs, h1, h2, -⟩ := h.rest
  have := (h2 k hk).1
  rw [if_neg (Nat.lt_irrefl _)] at this
  exact ⟨(h1.cell _).trans this, h1.frozen _⟩
theorem CpI.next {w wr : World} {o : Own} {c : Ch} {D G cp : Nat} {fv : Value} {k g : Nat} (h : CpI w wr o c D G cp fv k) (hk : k < c.nb) (hg : G < g) (hr : Rn wr (g + 1) g c.np (pgs c k)) : CpI w (wr.setCell ⟨G, k * 4, none⟩ (.slice (some ⟨g, 0, none⟩) c.np c.np)) o c D G cp fv (k + 1) := by
  obtain ⟨pb, cs, h1, h2, h3⟩ := h.rest
  have hd := h.lt
  have ho := h.old
  have hK : Kp (fun b => b = G) wr (wr.setCell ⟨G, k * 4, none⟩ (.slice (some ⟨g, 0, none⟩) c.np c.np)) := (Kp.refl (fun b => b = G) _).setCell (p := ⟨G, k * 4, none⟩) (.inl rfl) _
  refine ⟨h.bel.setCell (p := ⟨G, k * 4, none⟩) (by show w.heap.size ≤ G; omega) _, h.old, h.lt, h.le, h.chip.far (p := ⟨G, k * 4, none⟩) (by show D ≠ G; omega) _, up1 pb k g, _, h1.put (k * 4) _, fun j hj => ?_, fun j hj => ?_⟩
  · obtain ⟨e0, e1, e2, e3⟩ := h2 j hj
    refine ⟨?_, (set_ne (by omega)).trans e1, (set_ne (by omega)).trans e2, (set_ne (by omega)).trans e3⟩
    by_cases ej : j = k
    · subst ej
      rw [if_pos (Nat.lt_succ_self _), up1_at]
      exact set_at (Array.getElem?_eq_some_iff.1 e0).1
    · rw [up1_ne _ _ ej]
      refine (set_ne (by omega)).trans ?_
      rw [e0]
      by_cases hl : j < k
      · rw [if_pos hl, if_pos (by omega)]
      · rw [if_neg hl, if_neg (by omega)]
  · by_cases ej : j = k
    · subst ej
      rw [up1_at]
      exact ⟨hg, hr.kp hK (fun b e => by omega) (fun e => by omega)⟩
    · rw [up1_ne _ _ ej]
      obtain ⟨e1, e2⟩ := h3 j (by omega)
      exact ⟨e1, e2.kp hK (fun b e => by omega) (fun e => by omega)⟩
theorem CpI.dc {w wr : World} {o : Own} {c : Ch} {D G cp : Nat} {fv : Value} (h : CpI w wr o c D G cp fv c.nb) (hg : Gd c.nb c.np c.sz) (hs : ∀ k, k < c.nb → ∀ l ∈ pgs c k, l.length ≤ 100000) : ∃ o' : Own, o'.bc = D ∧ Dc wr o' c := by
  obtain ⟨pb, cs, h1, h2, h3⟩ := h.rest
  refine ⟨⟨D, G, pb⟩, rfl, hg, ⟨cp, h.chip.cell 3⟩, h.chip.cell 4, h.chip.cell 7, fun k hk => ?_, fun k hk => ?_, hs⟩
  · obtain ⟨e0, e1, e2, e3⟩ := h2 k hk
    rw [if_pos hk] at e0
    exact ⟨(h1.cell _).trans e0, (h1.cell _).trans e1, (h1.cell _).trans e2, (h1.cell _).trans e3⟩
  · obtain ⟨e1, e2⟩ := h3 k hk
    obtain ⟨cs', f1, f2, f3⟩ := e2.all (by rw [pgs_len])
    refine .inr ⟨pb k, 0, rfl, fun i hi => ?_⟩
    obtain ⟨v, g1, g2⟩ := f3 i hi
    obtain ⟨A, cc, rfl, hc, hr⟩ := g2.sl
    rw [Nat.zero_add]
    exact ⟨A, cc, (f1.cell i).trans g1, hc, hr⟩
theorem bk_one {o : Own} {c : Ch} {cs : Array Value} (h : BkV o c cs) : ∀ u ∈ cs.toList, u.oneCell' = true := by
  intro u hu
  obtain ⟨i, hi, rfl⟩ := List.getElem_of_mem hu
  have hi2 : i < cs.size := by simpa using hi
  have hk : i / 4 < c.nb := by have := h.1; omega
  obtain ⟨e0, e1, e2, e3⟩ := h.2 (i / 4) hk
  have e : cs[i]? = some cs.toList[i] := by rw [← Array.getElem?_toList, List.getElem?_eq_getElem hi]
  have h4 : i = i / 4 * 4 ∨ i = i / 4 * 4 + 1 ∨ i = i / 4 * 4 + 2 ∨ i = i / 4 * 4 + 3 := by omega
  rcases h4 with h4 | h4 | h4 | h4
  · rw [← h4, e] at e0; injection e0 with e0; rw [e0]; rfl
  · rw [← h4, e] at e1; injection e1 with e1; rw [e1]; rfl
  · rw [← h4, e] at e2; injection e2 with e2; rw [e2]; rfl
  · rw [← h4, e] at e3; injection e3 with e3; rw [e3]; rfl

set_option maxRecDepth 100000 in
set_option maxHeartbeats 4000000 in
theorem copy_any {w : World} {X : Nat → Prop} {o : Own} {c : Ch} (h : ChAt w X o c) (hfw : Fw c) :
    Calls Try.prog 20 #[o.p] w fun e w' => (∃ o' : Own, e = .returned (.pointer (some ⟨o'.bc, 0, none⟩)) ∧ Dc w' o' c) ∧ Below w.heap.size w w' := by
  have hgd := h.good
  have hgd2 := hgd
  unfold Gd at hgd2
  have HGd := Lib.hid hgd
  obtain ⟨fv, hch, hfl⟩ := h.chip
  obtain ⟨bcs, hbk, hbv⟩ := h.blocks
  have HSm := Lib.hid h.dc.small
  have hop : o.p = .pointer (some ⟨o.bc, 0, none⟩) := rfl
  have hfl2 := hfl
  obtain ⟨fa, fc, rfl, -⟩ := hfl2
  obtain ⟨n, hn⟩ : ∃ n, c.fl.length = n := ⟨_, rfl⟩
  rw [hn] at hch hfl
  have hal := (Below.refl w.heap.size w).alloc (Nat.le_refl _) (.cells (chV o c (.slice fa n fc)) 72)
  have HK := Lib.hid (kept_any (h.below hal) fa n fc c.fl (hfl.kp (F := fun _ => False) (Kp.of_below hal) (fun _ g => g.elim)) hn (by have := hfw.1; omega) hfw.2)
  have HBk := Lib.hid hbk
  have HBv := Lib.hid hbv
  have H := Lib.hid h
  have hne : o.bc < w.heap.size := hch.lt
  have c0 : w.cell? ⟨o.bc, 0, none⟩ = some (.int .i64 c.nb) := hch.cell 0
  have c1 : w.cell? ⟨o.bc, 1, none⟩ = some (.int .i64 c.np) := hch.cell 1
  have c2 : w.cell? ⟨o.bc, 2, none⟩ = some (.int .i64 c.sz) := hch.cell 2
  have c3 : w.cell? ⟨o.bc, 3, none⟩ = some (.slice (some ⟨o.bb, 0, none⟩) c.nb c.nb) := hch.cell 3
  have c4 : w.cell? ⟨o.bc, 4, none⟩ = some (.bool c.up) := hch.cell 4
  have c5 : w.cell? ⟨o.bc, 5, none⟩ = some (.slice fa n fc) := hch.cell 5
  have c6 : w.cell? ⟨o.bc, 6, none⟩ = some (.int .i64 c.since) := hch.cell 6
  have c7 : w.cell? ⟨o.bc, 7, none⟩ = some (.int .i64 c.strokes) := hch.cell 7
  have c8 : w.cell? ⟨o.bc, 8, none⟩ = some (.int .i64 c.reads) := hch.cell 8
  rw [hop] at HK ⊢
  unfold chV at HK hal
  have HAl := Lib.hid hal
  have HN := Lib.hid (show 7 < c.nb ∧ c.nb < 129 ∧ 3 < c.np ∧ c.np < 33 from by omega)
  have HLn : Hid ((c.fl.map (trF (c.sz + 32))).length = n) := Lib.hid (by rw [List.length_map]; exact hn)
  clear h hgd hgd2 hch hfl hbk hbv hop hfw hal hn
  go_enter Try.func20, Try.ntmps20
  go_upto_region 4 with (fail)
  have HD0 := Lib.hid (Blk.new w 72 #[.int .i64 c.nb, .int .i64 c.np, .int .i64 c.sz, .slice (some ⟨o.bb, 0, none⟩) c.nb c.nb, .bool c.up, .slice fa n fc, .int .i64 c.since, .int .i64 c.strokes, .int .i64 c.reads])
  generalize (w.alloc (.cells #[.int .i64 c.nb, .int .i64 c.np, .int .i64 c.sz, .slice (some ⟨o.bb, 0, none⟩) c.nb c.nb, .bool c.up, .slice fa n fc, .int .i64 c.since, .int .i64 c.strokes, .int .i64 c.reads] 72)) = w1 at HK HAl HD0 ⊢
  obtain ⟨D, hD⟩ : ∃ D, w.heap.size = D := ⟨_, rfl⟩
  have HDe := Lib.hid hD
  rw [hD] at HD0 hne ⊢
  have c5' := (HAl.out.cell (block_lt_of_cell c5)).trans c5
  clear hD c0 c1 c2 c4 c5 c6 c7 c8
  go_wp2_with fail
  refine HK.out.mono ?_
  rintro e w2 ⟨⟨v', rfl, hv'⟩, hb2⟩
  obtain ⟨a6, cap6, rfl, -⟩ := hv'
  rw [HLn.out]
  have hD2 := HD0.out.below hb2 HD0.out.lt
  have z5 : w2.cell? ⟨D, 5, none⟩ = some (.slice fa n fc) := hD2.cell 5
  have f5 := hD2.frozen 5
  have HB2 := Lib.hid ((HAl.out.trans (hb2.mono HAl.out.size)).setCell (p := ⟨D, 5, none⟩) (by show w.heap.size ≤ D; have := HDe.out; omega) (.slice a6 n cap6))
  have HD2 := Lib.hid (hD2.put 5 (.slice a6 n cap6))
  clear hD2 hb2 HK HD0 HAl c5'
  go_upto_region 5 with (fail)
  generalize (w2.setCell ⟨D, 5, none⟩ (.slice a6 n cap6)) = w3 at HB2 HD2 ⊢
  generalize (Value.slice a6 n cap6) = fv at HD2 ⊢
  have c3' := (HB2.out.cell (block_lt_of_cell c3)).trans c3
  have HCl := Lib.hid (cloneb_any o.bb c.nb bcs w3 (HBk.out.below HB2.out HBk.out.lt) HBv.out.1 (by have := HN.out; omega) (bk_one HBv.out))
  clear z5 f5
  go_wp2_with fail
  refine HCl.out.mono ?_
  rintro e w4 ⟨⟨G, cp, cur, rfl, hcp, hG, hcur, hcv⟩, hb4⟩
  have hD4 := HD2.out.below hb4 HD2.out.lt
  have z3 : w4.cell? ⟨D, 3, none⟩ = some (.slice (some ⟨o.bb, 0, none⟩) c.nb c.nb) := hD4.cell 3
  have f3 := hD4.frozen 3
  have hDG : D < G := Nat.lt_of_lt_of_le HD2.out.lt hG
  have hB5 := (HB2.out.trans (hb4.mono HB2.out.size)).setCell (p := ⟨D, 3, none⟩) (by show w.heap.size ≤ D; have := HDe.out; omega) (.slice (some ⟨G, 0, none⟩) c.nb cp)
  have HI0 : Hid (CpI w (w4.setCell ⟨D, 3, none⟩ (.slice (some ⟨G, 0, none⟩) c.nb cp)) o c D G cp fv 0) := Lib.hid ⟨hB5, HDe.out, hDG, hcp, hD4.put 3 _, fun _ => 0, cur, hcur.far (p := ⟨D, 3, none⟩) (by show G ≠ D; omega) _, fun j hj => by
    obtain ⟨e0, e1, e2, e3⟩ := HBv.out.2 j hj
    rw [if_neg (Nat.not_lt_zero _)]
    exact ⟨(hcv _ (by omega)).trans e0, (hcv _ (by omega)).trans e1, (hcv _ (by omega)).trans e2, (hcv _ (by omega)).trans e3⟩, fun j hj => absurd hj (Nat.not_lt_zero _)⟩
  have HDG := Lib.hid hDG
  clear hcp hG hcur hcv hb4 hD4 hB5 HCl HB2 HD2 c3' hDG
  go_upto_region 6 with (fail)
  generalize (w4.setCell ⟨D, 3, none⟩ (.slice (some ⟨G, 0, none⟩) c.nb cp)) = w5 at HI0 ⊢
  have z3 : w5.cell? ⟨D, 3, none⟩ = some (.slice (some ⟨G, 0, none⟩) c.nb cp) := HI0.out.chip.cell 3
  obtain ⟨nb, hnb⟩ : ∃ nb, c.nb = nb := ⟨_, rfl⟩
  have HNb := Lib.hid hnb
  rw [hnb] at z3 ⊢
  have n9 : nb < 129 := by have := HN.out; omega
  clear f3 hnb
  go_wp2_with fail
  go_loopw [26] (fun i wr => ∃ k : Nat, k ≤ nb ∧ i = .int .i64 k ∧ Hid (CpI w wr o c D G cp fv k)) (fun i _ => nb - (intOf i).toNat)
  case atStart => exact ⟨0, Nat.zero_le _, rfl, HI0⟩
  case round =>
    obtain ⟨k, hkn, rfl, hI⟩ := hrel
    by_cases hlt : k < nb
    · have hlt' : (k : Int) < (nb : Int) := by omega
      have k0 : (0 : Int) ≤ (k : Int) := by omega
      have hkc : k < c.nb := by rw [HNb.out]; exact hlt
      have hkcp : k < cp := by have := hI.out.le; omega
      have hd := H.out.below hI.out.bel
      obtain ⟨b0, -⟩ := hd.bcell hkc
      obtain ⟨-, -, -, b3, -⟩ := hd.cell
      have b4 : wr.cell? ⟨D, 3, none⟩ = some (.slice (some ⟨G, 0, none⟩) c.nb cp) := hI.out.chip.cell 3
      obtain ⟨b5, b6⟩ := hI.out.at hkc
      rw [HNb.out] at b3 b4
      obtain ⟨np, hnp⟩ : ∃ np, c.np = np := ⟨_, rfl⟩
      have HNp := Lib.hid hnp
      rw [hnp] at b0 b5
      have HCo := Lib.hid (fun w' (hb : Below wr.heap.size wr w') => copied_any (some ⟨o.pb k, 0, none⟩) np np (pgs c k) w' ((hd.below hb).dc.rows k hkc) (by rw [pgs_len, HNp.out]) (by have := HN.out; have := HNp.out; omega) (HSm.out k hkc))
      have SS := Lib.hid (fun w' (h : Below wr.heap.size wr w') => (⟨(h.cell (block_lt_of_cell b0)).trans b0, (h.cell (block_lt_of_cell b3)).trans b3, (h.cell (block_lt_of_cell b4)).trans b4, (h.cell (block_lt_of_cell b5)).trans b5, (h.frozen (block_lt_of_cell b5)).trans b6, h⟩ :
        w'.cell? ⟨o.bb, k * 4, none⟩ = some (.slice (some ⟨o.pb k, 0, none⟩) np np) ∧ w'.cell? ⟨o.bc, 3, none⟩ = some (.slice (some ⟨o.bb, 0, none⟩) nb nb) ∧ w'.cell? ⟨D, 3, none⟩ = some (.slice (some ⟨G, 0, none⟩) nb cp) ∧ w'.cell? ⟨G, k * 4, none⟩ = some (.slice (some ⟨o.pb k, 0, none⟩) np np) ∧ w'.frozen? ⟨G, k * 4, none⟩ = false ∧ Below wr.heap.size wr w'))
      have HEnd : Hid (∀ (w3 : World) (g : Nat), Below wr.heap.size wr w3 → wr.heap.size ≤ g → Rn w3 (g + 1) g np (pgs c k) → CpI w (w3.setCell ⟨G, k * 4, none⟩ (.slice (some ⟨g, 0, none⟩) np np)) o c D G cp fv (k + 1)) := Lib.hid (fun w3 g hb hg hr => by
        have := hI.out.gl
        rw [← HNp.out] at hr ⊢
        exact (hI.out.below hb).next hkc (by omega) hr)
      have HI := hI
      clear hd hkc hnp
      go_wp2_with fail
      go_region_with (go_at_call 33; refine (HCo.out _ ?_).mono ?_; exact (Below.refl _ wr).drew; rintro r w3 ⟨rfl, hrn, hb3⟩; obtain ⟨x0', x1', x2', x3', z3', hb3'⟩ := SS.out w3 (below_undraw hb3))
      all_goals
        have HF := Lib.hid (HEnd.out w3 _ hb3' (Nat.le_refl _) hrn)
        clear hrn hb3 hb3' x0' x1' x2' x3' z3' HEnd SS HCo
        go_wp2
        go_roundw
        case rel => exact ⟨k + 1, by omega, by go_num, HF⟩
        case measure => simp [intOf]; omega
    · have hkn2 : k = nb := by omega
      have hlt' : ¬ (k : Int) < (nb : Int) := by omega
      subst hkn2
      have hI2 := hI.out
      have HBe := Lib.hid hI2.bel
      rw [← HNb.out] at hI2
      obtain ⟨o', ho, hdc⟩ := hI2.dc HGd.out HSm.out
      have HO := Lib.hid ho
      have HDc := Lib.hid hdc
      clear hI hI2 ho hdc
      go_wp2
      go_ret
      exact ⟨⟨o', by rw [HO.out]; rfl, HDc.out⟩, HBe.out⟩

theorem latercellD {w : World} (m : Later w) {p : Addr} {v : Value} (h : w.cell? p = some v) : m.to.cell? p = some v := (m.bel.cell (block_lt_of_cell h)).trans h

set_option maxRecDepth 100000 in
set_option maxHeartbeats 1000000 in
/-- two rows of pages with the same bytes are the same -/
theorem rsame_any (a1 a2 : Option Addr) (n c1 c2 : Nat) (ls : List (List Int)) (w : World) (h1 : Rl w a1 ls) (h2 : Rl w a2 ls) (hn : ls.length = n) (hn2 : n ≤ 100000) :
    Calls Try.prog 27 #[.slice a1 n c1, .slice a2 n c2] w fun e w' => e = .returned (.bool true) ∧ Below w.heap.size w w' := by
  have H1 := Lib.hid h1
  have H2 := Lib.hid h2
  have HN := Lib.hid hn
  have n9 : n ≤ 9223372036854775807 := by omega
  clear h1 h2 hn
  go_enter Try.func27, Try.ntmps27
  go_wp2_with fail
  go_loopw [5] (fun i wr => ∃ k : Nat, k ≤ n ∧ i = .int .i64 k ∧ Hid (Below w.heap.size w wr)) (fun i _ => n - (intOf i).toNat)
  case atStart => exact ⟨0, Nat.zero_le _, rfl, Lib.hid (Below.refl _ _)⟩
  case round =>
    obtain ⟨k, hkn, rfl, hB⟩ := hrel
    by_cases hlt : k < n
    · have kl : (k : Int) < (n : Int) := by omega
      have k0 : (0 : Int) ≤ (k : Int) := by omega
      have hkl : k < ls.length := by rw [HN.out]; exact hlt
      obtain ⟨b1, o1, A1, d1, rfl, p1, q1, r1⟩ := (H1.out.below hB.out).at hkl
      obtain ⟨b2, o2, A2, d2, rfl, p2, q2, r2⟩ := (H2.out.below hB.out).at hkl
      generalize ls[k]! = l at p1 q1 r1 p2 q2 r2
      obtain ⟨m, hm⟩ : ∃ m, l.length = m := ⟨_, rfl⟩
      rw [hm] at p1 p2 q1 q2
      have e1 := fun mm : Later wr => latercellD mm p1
      have e2 := fun mm : Later wr => latercellD mm p2
      have t1 := fun mm : Later wr => (r1.below mm.bel).text m d1 hm
      have t2 := fun mm : Later wr => (r2.below mm.bel).text m d2 hm
      have tt : ((strOfNums l).toList != (strOfNums l).toList) = false := bne_self_eq_false _
      clear p1 p2 q1 q2 r1 r2 hm hkl
      go_wp2_with fail
      refine wp_region_later (by kernel_rfl) (by kernel_rfl) ?_
      repeat (go_big_quiet_step (fail))
      refine wpQuiet_nil ?_
      rintro _ ⟨mm, rfl⟩
      go_wp2
      go_roundw
      case rel => exact ⟨k + 1, by omega, by go_num, Lib.hid (hB.out.trans (mm.bel.mono hB.out.size))⟩
      case measure => simp [intOf]; omega
    · have kl : ¬ (k : Int) < (n : Int) := by omega
      go_wp2
      go_ret
      exact ⟨rfl, hB.out⟩

end Go.Proofs.Ytiaaeiefgnoiaaa
