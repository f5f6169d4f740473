/-
  The document's chip in memory: a page is programmed.
-/
import Derived.Test.YtjjggmopkfkpaaaGreatKS
import Derived.Deep.RegionWith
import Derived.Deep.Cut
namespace Go.Proofs.YtjjggmopkfkpaaaGreat
open Go.RowKit Crcm Go.ChangeShapes

/-- what a call that answers a number, and at most turns the chip, comes to -/
def RQ (w : World) (X : Nat → Prop) (o : Rb) (nb np sz : Nat) (e : Ending) (w' : World) : Prop :=
  (∃ r : Int, e = .returned (.int .i64 r)) ∧ (∃ dn, RcAt w' X o nb np sz dn) ∧ Kp o.F w w'
/-- a page's bytes, made anew, are put into the row of pages -/
theorem rput_new {w W w3 : World} {X : Nat → Prop} {o : Rb} {nb np sz : Nat} {dn : Bool} {I g wd cc : Nat} {l : List Int} (h : RcAt W X o nb np sz dn) (hK : Kp o.F w W) (hb : Below W.heap.size W w3)
    (hr : Rw w3 (some ⟨g, 0, none⟩) l) (hl : l.length = wd) (hc : wd ≤ cc) (hg : W.heap.size ≤ g) :
    RcAt (w3.setCell ⟨o.p, I, none⟩ (.slice (some ⟨g, 0, none⟩) wd cc)) X o nb np sz dn ∧ Kp o.F w (w3.setCell ⟨o.p, I, none⟩ (.slice (some ⟨g, 0, none⟩) wd cc)) := by
  refine ⟨(h.below hb).putp I ⟨some ⟨g, 0, none⟩, l, cc, by rw [hl], by rw [hl]; exact hc, hr, fun b off s e _ gx => ?_⟩, kp_set (hK.of_two hb) (.inr (.inl rfl))⟩
  injection e with e
  injection e with e1 e2 e3
  subst e1
  have := h.old _ gx
  omega
theorem RcAt.gfar {w : World} {X : Nat → Prop} {o : Rb} {nb np sz : Nat} {dn : Bool} (h : RcAt w X o nb np sz dn) : o.g < w.heap.size ∧ o.p < w.heap.size ∧ o.n < w.heap.size ∧ o.k < w.heap.size ∧ o.b < w.heap.size ∧ o.v < w.heap.size :=
  ⟨h.old _ (h.inX _ (.inl rfl)), h.old _ (h.inX _ (.inr (.inl rfl))), h.old _ (h.inX _ (.inr (.inr (.inl rfl)))), h.old _ (h.inX _ (.inr (.inr (.inr (.inl rfl))))), h.old _ (h.inX _ (.inr (.inr (.inr (.inr (.inl rfl)))))), h.old _ (h.inX _ (.inr (.inr (.inr (.inr (.inr rfl))))))⟩
theorem RcAt.down {w : World} {X : Nat → Prop} {o : Rb} {nb np sz : Nat} {dn : Bool} (h : RcAt w X o nb np sz dn) : w.cell? ⟨o.g, 10, none⟩ = some (.bool dn) ∧ w.frozen? ⟨o.g, 10, none⟩ = false := ⟨h.geo.2.2.2.1, (h.froz 10).1⟩

/-- a page's bytes filled up, at any later world, with what a store wants to know behind it -/
theorem rfull_later {W : World} {X : Nat → Prop} {o : Rb} {nb np sz : Nat} {dn : Bool} (h : RcAt W X o nb np sz dn) {A : Option Addr} {m c : Nat} {l : List Int} (hr : Rw W A l) (hl : l.length = m)
    {fb I N : Nat} {v1 v2 v3 : Value} (hp : W.cell? ⟨o.p, I, none⟩ = some v3) (hf : W.frozen? ⟨o.p, I, none⟩ = false) (r3 : W.cell? ⟨o.g, 3, none⟩ = some (.slice (some ⟨o.p, 0, none⟩) N N)) (c1 : W.cell? ⟨fb, 1, none⟩ = some v1) (c2 : W.cell? ⟨fb, 2, none⟩ = some v2)
    (w' : World) (hb : Below W.heap.size W w') :
    Calls Tryz.prog 71 #[.pointer (some ⟨o.g, 0, none⟩), .slice A m c] w' fun e w1 =>
      (∃ g c', e = .returned (.slice (some ⟨g, 0, none⟩) (sz + 32 : Nat) c') ∧ sz + 32 ≤ c' ∧ W.heap.size ≤ g ∧ Rw w1 (some ⟨g, 0, none⟩) (flF l (sz + 32))) ∧
      w1.cell? ⟨o.p, I, none⟩ = some v3 ∧ w1.frozen? ⟨o.p, I, none⟩ = false ∧ w1.cell? ⟨o.g, 3, none⟩ = some (.slice (some ⟨o.p, 0, none⟩) N N) ∧ w1.cell? ⟨fb, 1, none⟩ = some v1 ∧ w1.cell? ⟨fb, 2, none⟩ = some v2 ∧ Below W.heap.size W w1 := by
  refine (rfull_any (h.below hb) A m c l (hr.below hb) hl).mono ?_
  rintro e w1 ⟨⟨g, c', h1, h2, h3, h4⟩, h5⟩
  have hB := hb.trans (h5.mono hb.size)
  exact ⟨⟨g, c', h1, h2, Nat.le_trans hb.size h3, h4⟩, (hB.cell (block_lt_of_cell hp)).trans hp, (hB.frozen (block_lt_of_cell hp)).trans hf, (hB.cell (block_lt_of_cell r3)).trans r3, (hB.cell (block_lt_of_cell c1)).trans c1, (hB.cell (block_lt_of_cell c2)).trans c2, hB⟩

set_option maxRecDepth 100000 in
set_option maxHeartbeats 4000000 in
theorem rprogram_any {w : World} {X : Nat → Prop} {o : Rb} {nb np sz : Nat} {dn : Bool} (h : RcAt w X o nb np sz dn) (k page : Int) (A : Option Addr) (m c : Nat) (l : List Int) (hr : RwX w X A l) (hl : l.length = m) :
    Calls Tryz.prog 36 #[.pointer (some ⟨o.g, 0, none⟩), .int .i64 k, .int .i64 page, .slice A m c] w (RQ w X o nb np sz) := by
  have HP := Lib.hid (rplace_any h k page)
  by_cases hp : placeF nb np dn k page = 0
  · rw [hp] at HP
    obtain ⟨-, h0, h1, h2, h3⟩ := placeF_ok hp
    obtain ⟨n, rfl⟩ : ∃ n : Nat, k = n := ⟨k.toNat, by omega⟩
    obtain ⟨q, rfl⟩ : ∃ n : Nat, page = n := ⟨page.toNat, by omega⟩
    have hn : n < nb := by omega
    have hq : q < np := by omega
    have hnb : nb < 129 := h.good.2.1
    have hnp : np < 33 := h.good.2.2.2.1
    have hsz : sz ≤ 512 := by have := h.good; unfold Gd at this; omega
    obtain ⟨g0, g1, g2, g10, hgl⟩ := h.geo
    obtain ⟨r3, r4, r5, r6, -⟩ := h.rows
    obtain ⟨⟨zn, cn⟩, ⟨zk, ck⟩, ⟨zb, cb⟩, -⟩ := h.row hn
    have HS := Lib.hid (rstroke_any h)
    have H := Lib.hid h
    have HR := Lib.hid hr
    have HL := Lib.hid hl
    have HM := Lib.hid (show m ≤ maxLen by have := hr.1.2.1; omega)
    clear h hr hl hp h0 h1 h2 h3
    by_cases e1 : m = sz + 32
    · have t1 : ((m : Int) != (sz : Int) + 32) = false := by simp; omega
      clear e1
      rcases zb with _ | _
      · rcases zk with _ | _
        · by_cases e2 : zn = (q : Int)
          · have t2 : (zn != (q : Int)) = false := by simp [e2]
            clear e2
            obtain ⟨P, N, I, hP, hN, hI, hPw, hIw, hIN, hN4, hi0, hi1⟩ := page_no hn hq hnb hnp
            go_enter Tryz.func36, Tryz.ntmps36
            go_wp2_with fail
            refine HP.out.mono ?_
            rintro e w' ⟨rfl, rfl⟩
            go_wp2_with fail
            refine HS.out.mono ?_
            rintro r w1 ⟨⟨f, da, dc, rfl, hda, hdc⟩, hch, hkp⟩
            have C2 := Lib.hid (hch.below ((Below.refl _ _).alloc (Nat.le_refl _) (.cells #[.int .i64 f.at', .int .i64 f.kind, .slice da f.data.length dc] 51)))
            have K2 := Lib.hid (hkp.alloc (.cells #[.int .i64 f.at', .int .i64 f.kind, .slice da f.data.length dc] 51))
            have B2 := Lib.hid (Blk.new w1 51 #[.int .i64 f.at', .int .i64 f.kind, .slice da f.data.length dc])
            have D2 := Lib.hid (hda.kp (F := fun _ => False) (Kp.of_below ((Below.refl _ _).alloc (Nat.le_refl _) (.cells #[.int .i64 f.at', .int .i64 f.kind, .slice da f.data.length dc] 51))) (fun _ g => g.elim))
            have L2 := Lib.hid (HR.out.kp K2.out H.out.inX)
            obtain ⟨y0, y1, y2, y3, -, -⟩ := hch.gfar
            clear hch hkp hda HS H HR g0 g1 g2 g10 hgl r3 r4 r5 r6 cn ck cb
            go_upto_region 11 with (fail)
            generalize (w1.alloc (.cells #[.int .i64 f.at', .int .i64 f.kind, .slice da f.data.length dc] 51)) = W at C2 K2 B2 D2 L2 ⊢
            generalize w1.heap.size = fb at B2 y0 y1 y2 y3 ⊢
            have c1 : W.cell? ⟨fb, 1, none⟩ = some (.int .i64 f.kind) := B2.out.cell 1
            have c2 : W.cell? ⟨fb, 2, none⟩ = some (.slice da f.data.length dc) := B2.out.cell 2
            by_cases e1 : f.kind = 1
            · have t4 : (f.kind == 1) = true := beq_iff_eq.2 e1
              obtain ⟨c10, f10⟩ := C2.out.down
              have HR2 := Lib.hid (C2.out.putd true)
              have HK2 := Lib.hid (kp_set (i := 10) (u := .bool true) K2.out (q := o.g) (.inl rfl))
              clear e1
              go_wp2
              go_ret
              exact ⟨⟨4, rfl⟩, ⟨true, HR2.out⟩, HK2.out⟩
            · have t4 : (f.kind == 1) = false := beq_eq_false_iff_ne.2 e1
              clear e1
              obtain ⟨-, g1, -, -, -⟩ := C2.out.geo
              obtain ⟨-, r4, -, -, -⟩ := C2.out.rows
              obtain ⟨⟨z5, cn⟩, -, -, -⟩ := C2.out.row hn
              have fn := (C2.out.froz n).2.2.1
              have hn0 : (0 : Int) ≤ (n : Int) := by omega
              have hn1 : (n : Int) < (nb : Int) := by omega
              have hq1 : (q : Int) + 1 ≤ 33 := by omega
              go_upto_region 16 with (fail)
              have C5 := Lib.hid (C2.out.putn n ((q : Int) + 1))
              have K5 := Lib.hid (kp_set (i := n) (u := .int .i64 ((q : Int) + 1)) K2.out (q := o.n) (.inr (.inr (.inl rfl))))
              have K6 := kp_set (i := n) (u := .int .i64 ((q : Int) + 1)) (Kp.refl o.F W) (q := o.n) (.inr (.inr (.inl rfl)))
              have B5 := Lib.hid (B2.out.far (p := ⟨o.n, n, none⟩) (show fb ≠ o.n by omega) (.int .i64 ((q : Int) + 1)))
              have D5 := Lib.hid (D2.out.kp K6 C2.out.inX)
              have L5 := Lib.hid (L2.out.kp K6 C2.out.inX)
              clear K6 c1 c2 g1 r4 cn fn hq1 C2 K2 B2 D2 L2
              generalize W.setCell ⟨o.n, n, none⟩ (.int .i64 ((q : Int) + 1)) = W5 at C5 K5 B5 D5 L5 ⊢
              have c1 : W5.cell? ⟨fb, 1, none⟩ = some (.int .i64 f.kind) := B5.out.cell 1
              have c2 : W5.cell? ⟨fb, 2, none⟩ = some (.slice da f.data.length dc) := B5.out.cell 2
              obtain ⟨r3, -, -, -, -⟩ := C5.out.rows
              obtain ⟨A3, l3, k3, hp3, -, -⟩ := C5.out.page (i := I) (by rw [hN]; exact hIN)
              have hf3 := (C5.out.froz I).2.1
              rw [hN] at r3
              have hbp : fb ≠ o.p := by omega
              have hbg : fb ≠ o.g := by omega
              have hcc0 := C5.out.down
              clear hP hN hI hPw hIw
              by_cases e2 : f.kind = 2
              · have t5 : (f.kind == 2) = true := beq_iff_eq.2 e2
                have t7 : (f.kind != 2) = false := by simp [e2]
                have FF := Lib.hid (rfull_later (c := dc) C5.out D5.out.1 rfl hp3 hf3 r3 c1 c2)
                clear e2
                go_upto_region 19 with (fail)
                go_region_with (first
                  | (go_at_call 71; refine (FF.out _ ?_).mono ?_; exact (Below.refl _ W5).drew; rintro e w3 ⟨⟨gg, cc, rfl, hcc, hgg, hrr⟩, k1, k2, k3, k4, k5, hb3⟩))
                all_goals
                  obtain ⟨q1, q2⟩ := rput_new (I := I) C5.out K5.out hb3 hrr (flF_len _ _) hcc hgg
                  have k4 := ((Blk.below B5.out hb3 B5.out.lt).far (p := ⟨o.p, I, none⟩) hbp (.slice (some ⟨gg, 0, none⟩) (sz + 32 : Nat) cc)).cell 1
                  have Q1 := Lib.hid q1
                  have Q2 := Lib.hid q2
                  clear q1 q2 k1 k2 k3 k5 hrr hcc0
                  generalize w3.setCell ⟨o.p, I, none⟩ (.slice (some ⟨gg, 0, none⟩) (sz + 32 : Nat) cc) = W7 at Q1 Q2 k4 ⊢
                  obtain ⟨c10, f10⟩ := Q1.out.down
                  have R1 := Lib.hid (Q1.out.putd true)
                  have R2 := Lib.hid (kp_set (i := 10) (u := .bool true) Q2.out (q := o.g) (.inl rfl))
                  go_wp2
                  go_ret
                  exact ⟨⟨4, rfl⟩, ⟨true, R1.out⟩, R2.out⟩
              · by_cases e3 : f.kind = 3
                · have t5 : (f.kind == 2) = false := beq_eq_false_iff_ne.2 e2
                  have t7 : (f.kind != 2) = true := bne_iff_ne.2 e2
                  have t6 : (f.kind == 3) = true := beq_iff_eq.2 e3
                  have t8 : (f.kind != 3) = false := by simp [e3]
                  have FF := Lib.hid (rfull_later (c := dc) C5.out D5.out.1 rfl hp3 hf3 r3 c1 c2)
                  clear e2 e3
                  go_upto_region 19 with (fail)
                  go_region_with (first
                    | (go_at_call 71; refine (FF.out _ ?_).mono ?_; exact (Below.refl _ W5).drew; rintro e w3 ⟨⟨gg, cc, rfl, hcc, hgg, hrr⟩, k1, k2, k3, k4, k5, hb3⟩))
                  all_goals
                    obtain ⟨q1, q2⟩ := rput_new (I := I) C5.out K5.out hb3 hrr (flF_len _ _) hcc hgg
                    have k4 := ((Blk.below B5.out hb3 B5.out.lt).far (p := ⟨o.p, I, none⟩) hbp (.slice (some ⟨gg, 0, none⟩) (sz + 32 : Nat) cc)).cell 1
                    have Q1 := Lib.hid q1
                    have Q2 := Lib.hid q2
                    clear q1 q2 k1 k2 k3 k5 hrr hcc0
                    generalize w3.setCell ⟨o.p, I, none⟩ (.slice (some ⟨gg, 0, none⟩) (sz + 32 : Nat) cc) = W7 at Q1 Q2 k4 ⊢
                    obtain ⟨c10, f10⟩ := Q1.out.down
                    go_wp2
                    go_ret
                    exact ⟨⟨11, rfl⟩, ⟨dn, Q1.out⟩, Q2.out⟩
                · have t5 : (f.kind == 2) = false := beq_eq_false_iff_ne.2 e2
                  have t6 : (f.kind == 3) = false := beq_eq_false_iff_ne.2 e3
                  have t7 : (f.kind != 2) = true := bne_iff_ne.2 e2
                  have t8 : (f.kind != 3) = true := bne_iff_ne.2 e3
                  have FF := Lib.hid (rfull_later (c := c) C5.out L5.out.1 HL.out hp3 hf3 r3 c1 c2)
                  clear e2 e3
                  go_upto_region 17 with (fail)
                  go_region_with (first
                    | (go_at_call 71; refine (FF.out _ ?_).mono ?_; exact (Below.refl _ W5).drew; rintro e w3 ⟨⟨gg, cc, rfl, hcc, hgg, hrr⟩, k1, k2, k3, k4, k5, hb3⟩))
                  all_goals
                    obtain ⟨q1, q2⟩ := rput_new (I := I) C5.out K5.out hb3 hrr (flF_len _ _) hcc hgg
                    have Q1 := Lib.hid q1
                    have Q2 := Lib.hid q2
                    clear q1 q2 k1 k2 k3 k4 k5 hrr
                    go_wp2
                    go_ret
                    exact ⟨⟨0, rfl⟩, ⟨dn, Q1.out⟩, Q2.out⟩
          · have t2 : (zn != (q : Int)) = true := by simp [e2]
            clear e2
            have HE : Hid (RQ w X o nb np sz (.returned (.int .i64 10)) w) := Lib.hid ⟨⟨10, rfl⟩, ⟨dn, H.out⟩, Kp.refl _ _⟩
            go_enter Tryz.func36, Tryz.ntmps36
            go_wp2_with fail
            refine HP.out.mono ?_
            rintro e w' ⟨rfl, rfl⟩
            go_wp2
            go_ret
            exact HE.out
        · have HE : Hid (RQ w X o nb np sz (.returned (.int .i64 10)) w) := Lib.hid ⟨⟨10, rfl⟩, ⟨dn, H.out⟩, Kp.refl _ _⟩
          go_enter Tryz.func36, Tryz.ntmps36
          go_wp2_with fail
          refine HP.out.mono ?_
          rintro e w' ⟨rfl, rfl⟩
          go_wp2
          go_ret
          exact HE.out
      · have HE : Hid (RQ w X o nb np sz (.returned (.int .i64 13)) w) := Lib.hid ⟨⟨13, rfl⟩, ⟨dn, H.out⟩, Kp.refl _ _⟩
        go_enter Tryz.func36, Tryz.ntmps36
        go_wp2_with fail
        refine HP.out.mono ?_
        rintro e w' ⟨rfl, rfl⟩
        go_wp2
        go_ret
        exact HE.out
    · have HE : Hid (RQ w X o nb np sz (.returned (.int .i64 1)) w) := Lib.hid ⟨⟨1, rfl⟩, ⟨dn, H.out⟩, Kp.refl _ _⟩
      have t1 : ((m : Int) != (sz : Int) + 32) = true := by simp; omega
      clear e1
      go_enter Tryz.func36, Tryz.ntmps36
      go_wp2_with fail
      refine HP.out.mono ?_
      rintro e w' ⟨rfl, rfl⟩
      go_wp2
      go_ret
      exact HE.out
  · have H := Lib.hid h
    generalize placeF nb np dn k page = r at hp HP
    have q : (r != 0) = true := by simp [hp]
    clear h hp
    go_enter Tryz.func36, Tryz.ntmps36
    go_wp2_with fail
    refine HP.out.mono ?_
    rintro e w' ⟨rfl, rfl⟩
    go_wp2
    go_ret
    exact ⟨⟨r, rfl⟩, ⟨dn, H.out⟩, Kp.refl _ _⟩

end Go.Proofs.YtjjggmopkfkpaaaGreat
