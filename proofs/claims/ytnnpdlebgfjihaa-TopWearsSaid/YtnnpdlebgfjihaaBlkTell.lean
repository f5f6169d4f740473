/-
  What a manager tells: how much room there is, what is left, what is to be done next. Nothing of one statement alone stands here.
-/
import Derived.Test.YtnnpdlebgfjihaaBlkMg
import Derived.BigQuiet
import Derived.Test.YtnnpdlebgfjihaaBlkOpen
namespace Gcm
open Go Go.RowKit Go.IntWalk
/-- how many pages can be programmed, of the first blocks -/
def rmk (np : Int) (l : List Bk) : Nat → Int
  | 0 => 0
  | k + 1 => if (l[k]!.st == 0) = true then wrap64 (rmk np l k + np) else if (l[k]!.st == 1) = true then wrap64 (rmk np l k + wrap64 (np - l[k]!.nx)) else rmk np l k
theorem rmk_at {np : Int} {l : List Bk} {k : Nat} {y : Bk} (h : l[k]! = y) : rmk np l (k + 1) = if (y.st == 0) = true then wrap64 (rmk np l k + np) else if (y.st == 1) = true then wrap64 (rmk np l k + wrap64 (np - y.nx)) else rmk np l k := by subst h; rfl
end Gcm
namespace Go.Proofs.Ytnnpdlebgfjihaa
open Go.RowKit Crcm Gcm Go.ChangeShapes

theorem gfield1 (a b c : Int) (w : World) : Sem.run Try.prog (Instr.field 23 (.agg #[.int .i64 a, .int .i64 b, .int .i64 c]) 1) w = .ok (.int .i64 b) w := by
  unfold Instr.field
  go_simp
  rfl
theorem gfield2 (a b c : Int) (w : World) : Sem.run Try.prog (Instr.field 23 (.agg #[.int .i64 a, .int .i64 b, .int .i64 c]) 2) w = .ok (.int .i64 c) w := by
  unfold Instr.field
  go_simp
  rfl

set_option maxRecDepth 100000 in
set_option maxHeartbeats 1000000 in
theorem broom_any {w : World} {X : Nat → Prop} {M : Nat} {m : Mg} {o : Own} {c : Ch} (h : MgAt w M m) (hc : ChAt w X o c) (hp : m.cp = o.p) :
    Calls Try.prog 20 #[.pointer (some ⟨M, 0, none⟩)] w fun e w' => e = .returned (.int .i64 (rmk c.np m.l m.l.length)) ∧ Below w.heap.size w w' := by
  obtain ⟨c0, c1, -, -, -⟩ := h.cells
  have HH := Lib.hid h
  have hs := h.small
  have hM := h.blk.lt
  have HM := Lib.hid hM
  have HGe := Lib.hid (geo_any hc)
  rw [hp] at c0
  have HN := Lib.hid (show m.l.length = m.l.length from rfl)
  generalize hn : m.l.length = n at c1 hs HN ⊢
  have HL := Lib.hid hn
  have gf := gfield1
  clear h hc hp hM hn HN
  unfold Own.p at c0 HGe
  go_enter Try.func20, Try.ntmps20
  go_wp2_with fail
  refine HGe.out.mono ?_
  rintro r w1 ⟨rfl, hb1⟩
  have B1 := Lib.hid hb1
  have d1 := (hb1.cell (p := ⟨M, 1, none⟩) HM.out).trans c1
  clear hb1 HGe c0 c1
  go_wp2_with fail
  go_loopw [4, 20] (fun s i wr => ∃ k : Nat, k ≤ n ∧ i = .int .i64 k ∧ s = .int .i64 (rmk c.np m.l k) ∧ Hid (Below w.heap.size w wr)) (fun _ i _ => n - (intOf i).toNat)
  case atStart => exact ⟨0, by omega, rfl, rfl, B1⟩
  case round =>
    obtain ⟨k, hk, rfl, rfl, E⟩ := hrel
    by_cases hlt : k < n
    · have hkl : k < m.l.length := by rw [HL.out]; exact hlt
      obtain ⟨e0, e1, e2, e3⟩ := at_below (HH.out.own.at k hkl) E.out
      obtain ⟨y, hy⟩ : ∃ y, m.l[k]! = y := ⟨_, rfl⟩
      rw [hy] at e0 e1 e2 e3
      have HR := Lib.hid (rmk_at (np := c.np) hy)
      have HB := Lib.hid (E.out.alloc E.out.size (.cells #[.int .i64 y.st, .int .i64 y.lv, .int .i64 y.wr, .int .i64 y.nx] 66))
      clear hy hkl E
      obtain ⟨st, lv, wr', nx⟩ := y
      dsimp only at HR HB e0 e1 e2 e3
      generalize rmk c.np m.l k = s at HR ⊢
      cases hs0 : st == 0 with
      | true =>
        rw [if_pos hs0] at HR
        go_wp2
        go_roundw
        case rel => exact ⟨k + 1, by omega, by go_num, by rw [HR.out], HB⟩
        case measure => simp [intOf]; omega
      | false =>
        rw [if_neg (by rw [hs0]; exact Bool.false_ne_true)] at HR
        cases hs1 : st == 1 with
        | true =>
          rw [if_pos hs1] at HR
          go_wp2
          go_roundw
          case rel => exact ⟨k + 1, by omega, by go_num, by rw [HR.out], HB⟩
          case measure => simp [intOf]; omega
        | false =>
          rw [if_neg (by rw [hs1]; exact Bool.false_ne_true)] at HR
          go_wp2
          go_roundw
          case rel => exact ⟨k + 1, by omega, by go_num, by rw [HR.out], HB⟩
          case measure => simp [intOf]; omega
    · have : k = n := by omega
      subst this
      go_wp2
      go_ret
      exact ⟨rfl, E.out⟩
set_option maxRecDepth 100000 in
set_option maxHeartbeats 1000000 in
theorem bnext_any {w : World} {X : Nat → Prop} {M : Nat} {m : Mg} {o : Own} {c : Ch} (h : MgAt w M m) (hc : ChAt w X o c) (hp : m.cp = o.p) (hn : m.l.length = c.nb) (hap : m.ap = false) (hwr : ∀ k, k < c.nb → I64 (c.wear k)) :
    Calls Try.prog 16 #[.pointer (some ⟨M, 0, none⟩)] w fun e w' => e = .returned (av (nxt (wk c.wear m.l c.nb) c.np (decide ((c.np : Int) ≤ rmk c.np m.l m.l.length)))) ∧ Below w.heap.size w w' := by
  obtain ⟨W0, hW0⟩ : ∃ W, w.alloc (.cells #[.int .i64 0, .int .i64 0] 53) = W := ⟨_, rfl⟩
  have B0 : Hid (Blk W0 w.heap.size 53 #[.int .i64 0, .int .i64 0]) := Lib.hid (by rw [← hW0]; exact Blk.new w _ _)
  have BB : Hid (Below w.heap.size w W0) := Lib.hid (by rw [← hW0]; exact (Below.refl _ w).alloc (Nat.le_refl _) _)
  obtain ⟨c0, c1, -, -, c4⟩ := h.cells
  rw [hap] at c4
  rw [hp] at c0
  have hM := h.blk.lt
  have hMn : M ≠ w.heap.size := by omega
  have hbw := wk_bw c.wear m.l h.wf c.nb (by omega) hwr
  have hlw : (wk c.wear m.l c.nb).length = c.nb := by rw [wk_length, hn]
  have HWn := Lib.hid (worn_any (h.below BB.out) (hc.below BB.out) hp hn)
  have HGe := Lib.hid (fun W (hb : Below w.heap.size w W) => geo_any (hc.below hb))
  have HRm := Lib.hid (fun W (hb : Below w.heap.size w W) => broom_any (h.below hb) (hc.below hb) hp)
  have HM := Lib.hid h.blk.lt
  have hnb := hc.good.2.1
  have gf := gfield1
  have HW0 := Lib.hid hW0
  clear h hc hap hwr hp hn hW0
  unfold Own.p at *
  generalize rmk c.np m.l m.l.length = rm at HRm ⊢
  generalize wk c.wear m.l c.nb = L at *
  go_enter Try.func16, Try.ntmps16
  go_wp2_with fail
  rw [HW0.out]
  refine HWn.out.mono ?_
  rintro e w1 ⟨g, cp, rfl, hg, hO, hb1⟩
  have HO := Lib.hid hO
  have B1 := Lib.hid (BB.out.trans (hb1.mono BB.out.size))
  have D1 := Lib.hid (B0.out.below hb1 B0.out.lt)
  have d0 := (B1.out.cell (p := ⟨M, 0, none⟩) HM.out).trans c0
  have HG := Lib.hid (HGe.out w1 B1.out)
  have HGL := Lib.hid (HO.out.lt)
  clear hO hb1 hg c0 c1 c4 HWn hM hMn
  go_wp2_with fail
  refine HG.out.mono ?_
  rintro e w2 ⟨rfl, hb2⟩
  have B2 := Lib.hid (B1.out.trans (hb2.mono B1.out.size))
  have D2 := Lib.hid (D1.out.below hb2 D1.out.lt)
  have HO2 := Lib.hid (HO.out.below hb2 HGL.out)
  have HR := Lib.hid (HRm.out w2 B2.out)
  clear hb2 HG HGe
  go_wp2_with fail
  refine HR.out.mono ?_
  rintro e w3 ⟨rfl, hb3⟩
  have B3 := Lib.hid (B2.out.trans (hb3.mono B2.out.size))
  have D3 := Lib.hid (D2.out.below hb3 D2.out.lt)
  have HO3 := Lib.hid (HO2.out.below hb3 HO2.out.lt)
  have HNx := Lib.hid (next_any L (some ⟨g, 0, none⟩) cp c.nb c.np (decide ((c.np : Int) ≤ rm)) w3 (HO3.out.rg hbw (by unfold maxLen; omega)) hlw)
  clear hb3 HR HRm
  generalize hz : nxt L c.np (decide ((c.np : Int) ≤ rm)) = z at HNx
  have HZ := Lib.hid hz
  clear hz
  unfold av at HNx
  go_wp2_with fail
  refine HNx.out.mono ?_
  rintro e w4 ⟨rfl, hb4⟩
  have B4 := Lib.hid (B3.out.trans (hb4.mono B3.out.size))
  have D4 := Lib.hid (D3.out.below hb4 D3.out.lt)
  have c0 := D4.out.cell 0
  have c1 := D4.out.cell 1
  have g0 := D4.out.frozen 0
  have g1 := D4.out.frozen 1
  simp at c0 c1
  have Z := ov2_blk (a := z.1) (b := z.2) D4.out
  have HB := Lib.hid (ov2_below (a := z.1) (b := z.2) B4.out (Nat.le_refl _))
  have x0 := Z.cell 0
  have x1 := Z.cell 1
  simp at x0 x1
  unfold ov2 at x0 x1
  clear hb4 Z
  go_wp2
  exact bodyPost_ret (v := av z) (by simp [av, results, Try.results16, go_sem, x0, x1]) rfl ⟨by rw [HZ.out], HB.out⟩
end Go.Proofs.Ytnnpdlebgfjihaa
