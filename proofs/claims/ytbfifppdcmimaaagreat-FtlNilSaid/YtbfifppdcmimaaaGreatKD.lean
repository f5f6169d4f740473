/-
  A page programmed: the program's call Program. Nothing of one statement alone stands here.
-/
import Derived.Test.YtbfifppdcmimaaaGreatKC
import Derived.Deep.RegionHeld3
import Derived.Deep.RegionWith
namespace Go.Proofs.YtbfifppdcmimaaaGreat
open Go.RowKit Crcm Go.ChangeShapes

/-- what is answered ahead of the stroke (0: it goes on) -/
def prE (c : Ch) (k page : Int) (len : Nat) : Int :=
  if rpE c k page = 0 then (if len = c.sz + 32 then (if c.bad k.toNat then 13 else if c.broken k.toNat = true ∨ nx (c.pg k.toNat) c.np ≠ page.toNat then 10 else 0) else 1) else rpE c k page
theorem prE_zero {c : Ch} {k page : Int} {len : Nat} (h : prE c k page len = 0) : rpE c k page = 0 ∧ len = c.sz + 32 ∧ c.bad k.toNat = false ∧ c.broken k.toNat = false ∧ nx (c.pg k.toNat) c.np = page.toNat := by
  unfold prE at h
  split at h
  · split at h
    · split at h
      · cases h
      · rename_i h1 h2 h3
        split at h
        · cases h
        · rename_i h4
          refine ⟨h1, h2, by simpa using h3, ?_, ?_⟩
          · cases hb : c.broken k.toNat with
            | true => exact absurd (.inl hb) h4
            | false => rfl
          · exact Classical.byContradiction fun g => h4 (.inr g)
    · cases h
  · exact absurd h (by assumption)

set_option maxRecDepth 100000 in
set_option maxHeartbeats 1000000 in
theorem program_no {w : World} {X : Nat → Prop} {o : Own} {c : Ch} (h : ChAt w X o c) (k page : Int) (a : Option Addr) (m cap : Nat) (hm : m ≤ maxLen) (he : prE c k page m ≠ 0) :
    Calls Tryz.prog 136 #[o.p, .int .i64 k, .int .i64 page, .slice a m cap] w fun e w' => e = .returned (.int .i64 (prE c k page m)) ∧ w = w' := by
  have m9 : m ≤ 9223372036854775807 := by unfold maxLen at hm; omega
  by_cases h1 : rpE c k page = 0
  · obtain ⟨r1, r2, r3⟩ := rpE_zero h1
    obtain ⟨s1, s2, s3⟩ := reE_zero r1
    obtain ⟨k, rfl⟩ : ∃ n : Nat, k = n := ⟨k.toNat, by omega⟩
    obtain ⟨page, rfl⟩ : ∃ n : Nat, page = n := ⟨page.toNat, by omega⟩
    have hk : k < c.nb := by omega
    have HR := Lib.hid (reachPage_yes h k page h1)
    have HW := Lib.hid (width_any h)
    by_cases h2 : m = c.sz + 32
    · have t2 : ((m : Int) != ((c.sz + 32 : Nat) : Int)) = false := by rw [h2]; simp
      obtain ⟨-, b1, b2, -⟩ := h.bcell hk
      cases hbad : c.bad k with
      | true =>
        have e : prE c k page m = 13 := by unfold prE; rw [if_pos h1, if_pos h2, Int.toNat_natCast, if_pos hbad]
        rw [e]
        rw [hbad] at b2
        have H2 := Lib.hid h2
        clear h he e h1 r1 r2 r3 s1 s2 s3 hk h2
        go_enter Tryz.func136, Tryz.ntmps136
        go_wp2_with fail
        refine HR.out.mono ?_
        rintro r w' ⟨rfl, rfl⟩
        go_wp2_with fail
        refine HW.out.mono ?_
        rintro r w' ⟨rfl, rfl⟩
        go_wp2
        go_ret
        exact ⟨rfl, rfl⟩
      | false =>
        rw [hbad] at b2
        cases hbr : c.broken k with
        | true =>
          have e : prE c k page m = 10 := by unfold prE; rw [if_pos h1, if_pos h2, Int.toNat_natCast, if_neg (by rw [hbad]; simp), if_pos (.inl hbr)]
          rw [e]
          rw [hbr] at b1
          clear h he e h1 r1 r2 r3 s1 s2 s3 hk h2
          go_enter Tryz.func136, Tryz.ntmps136
          go_wp2_with fail
          refine HR.out.mono ?_
          rintro r w' ⟨rfl, rfl⟩
          go_wp2_with fail
          refine HW.out.mono ?_
          rintro r w' ⟨rfl, rfl⟩
          go_wp2
          go_ret
          exact ⟨rfl, rfl⟩
        | false =>
          rw [hbr] at b1
          have hne : nx (c.pg k) c.np ≠ page := fun g => he (by unfold prE; rw [if_pos h1, if_pos h2, Int.toNat_natCast, Int.toNat_natCast, if_neg (by rw [hbad]; simp), if_neg (by rintro (g1 | g1); rw [hbr] at g1; cases g1; exact g1 g)])
          have e : prE c k page m = 10 := by unfold prE; rw [if_pos h1, if_pos h2, Int.toNat_natCast, Int.toNat_natCast, if_neg (by rw [hbad]; simp), if_pos (.inr hne)]
          rw [e]
          have HNx := Lib.hid (pnext_any h k hk)
          generalize nx (c.pg k) c.np = n at HNx hne
          have t3 : ((page : Int) != (n : Int)) = true := bne_iff_ne.2 (by omega)
          clear h he e h1 r1 r2 r3 s1 s2 s3 hk h2 hne
          go_enter Tryz.func136, Tryz.ntmps136
          go_wp2_with fail
          refine HR.out.mono ?_
          rintro r w' ⟨rfl, rfl⟩
          go_wp2_with fail
          refine HW.out.mono ?_
          rintro r w' ⟨rfl, rfl⟩
          go_wp2_with fail
          refine HNx.out.mono ?_
          rintro r w' ⟨rfl, rfl⟩
          go_wp2
          go_ret
          exact ⟨rfl, rfl⟩
    · have e : prE c k page m = 1 := by unfold prE; rw [if_pos h1, if_neg h2]
      rw [e]
      have t2 : ((m : Int) != ((c.sz + 32 : Nat) : Int)) = true := bne_iff_ne.2 (by omega)
      clear h he e h1 r1 r2 r3 s1 s2 s3 hk h2
      go_enter Tryz.func136, Tryz.ntmps136
      go_wp2_with fail
      refine HR.out.mono ?_
      rintro r w' ⟨rfl, rfl⟩
      go_wp2_with fail
      refine HW.out.mono ?_
      rintro r w' ⟨rfl, rfl⟩
      go_wp2
      go_ret
      exact ⟨rfl, rfl⟩
  · have e : prE c k page m = rpE c k page := by unfold prE; rw [if_neg h1]
    rw [e]
    have HR := Lib.hid (reachPage_no h k page h1)
    generalize rpE c k page = x at HR h1 ⊢
    have t0 : (x != 0) = true := bne_iff_ne.2 h1
    clear h he e h1
    go_enter Tryz.func136, Tryz.ntmps136
    go_wp2_with fail
    refine HR.out.mono ?_
    rintro r w' ⟨rfl, rfl⟩
    go_wp2
    go_ret
    exact ⟨rfl, rfl⟩

/-- a chip behind a page's programming that went on -/
def prC (c : Ch) (k page : Nat) (l : List Int) : Ch :=
  endC (fnd c.fl c.since).kind
    (if (fnd c.fl c.since).kind = 1 then stC c else if (fnd c.fl c.since).kind = 2 ∨ (fnd c.fl c.since).kind = 3 then { stC c with pg := up2 c.pg k page (some (tornL (c.sz + 32) (fnd c.fl c.since).data)) } else { stC c with pg := up2 c.pg k page (some l) })

theorem below_undraw {w w' : World} (h : Below w.drew.heap.size w.drew w') : Below w.heap.size w w' := ⟨h.os, h.tape, h.output, h.size, h.block⟩
/-- a page put into a block's row -/
theorem put_new {w W w3 : World} {X : Nat → Prop} {o : Own} {c c0 : Ch} {k page fb g wd cc : Nat} {l : List Int} {v1 : Value} (h : ChAt W X o c) (hb : Below W.heap.size W w3) (hk : k < c.nb) (hp : page < c.np) (hn : c0.nb = c.nb) (hK : Kp (o.F c0.nb) w W)
    (hwd : c.sz + 32 = wd) (hr : Rw w3 (some ⟨g, 0, none⟩) l) (hl : l.length = wd) (hc : wd ≤ cc) (hg : W.heap.size ≤ g) (hfb : o.pb k ≠ fb) (h1 : w3.cell? ⟨fb, 1, none⟩ = some v1) :
    ChAt (w3.setCell ⟨o.pb k, page, none⟩ (.slice (some ⟨g, 0, none⟩) wd cc)) X o { c with pg := up2 c.pg k page (some l) } ∧ Kp (o.F c0.nb) w (w3.setCell ⟨o.pb k, page, none⟩ (.slice (some ⟨g, 0, none⟩) wd cc)) ∧
      (w3.setCell ⟨o.pb k, page, none⟩ (.slice (some ⟨g, 0, none⟩) wd cc)).cell? ⟨fb, 1, none⟩ = some v1 := by
  refine ⟨(h.below hb).putPg k page hk hp _ _ ?_, (hK.trans (Kp.of_below hb)).setCell (.inl (.inr (.inr ⟨k, by omega, rfl⟩))) _, ?_⟩
  · refine ⟨g, 0, cc, by rw [hwd], by rw [hwd]; exact hc, by rw [hwd]; exact hl, hr, fun b off s e _ gx => ?_⟩
    injection e with e
    injection e with e1 e2 e3
    subst e1
    have := h.old _ gx
    omega
  · have := World.cell?_of_block (w := w3) (a := ⟨fb, 1, none⟩) (Below.heap_setCell w3 ⟨o.pb k, page, none⟩ (.slice (some ⟨g, 0, none⟩) wd cc) fb (fun e => hfb e.symm))
    rw [this]
    exact h1

set_option maxRecDepth 100000 in
set_option maxHeartbeats 4000000 in
theorem program_yes {w : World} {X : Nat → Prop} {o : Own} {c : Ch} (h : ChAt w X o c) (k page : Nat) (a : Option Addr) (cap : Nat) (l : List Int) (hr : RwX w X a l) (hl : l.length = c.sz + 32) (he : prE c k page (c.sz + 32) = 0) :
    Calls Tryz.prog 136 #[o.p, .int .i64 k, .int .i64 page, .slice a ((c.sz + 32 : Nat)) cap] w fun e w' => e = .returned (.int .i64 (endE (fnd c.fl c.since).kind)) ∧ ChAt w' X o (prC c k page l) ∧ Kp (o.F c.nb) w w' := by
  obtain ⟨h1, h2, h3, h4, h5⟩ := prE_zero he
  rw [Int.toNat_natCast] at h3 h4
  rw [Int.toNat_natCast, Int.toNat_natCast] at h5
  obtain ⟨r1, r2, r3⟩ := rpE_zero h1
  obtain ⟨s1, s2, s3⟩ := reE_zero r1
  have hk : k < c.nb := by omega
  have hp : page < c.np := by omega
  have hgz : c.sz ≤ 512 := by have := h.good; unfold Gd at this; omega
  obtain ⟨-, b1, b2, -⟩ := h.bcell hk
  rw [h4] at b1
  rw [h3] at b2
  have HR := Lib.hid (reachPage_yes h k page h1)
  have HW := Lib.hid (width_any h)
  have HNx := Lib.hid (pnext_any h k hk)
  rw [h5] at HNx
  have HS := Lib.hid (stroke_any h)
  have H := Lib.hid h
  have HRw := Lib.hid hr
  have HL := Lib.hid hl
  have t2 : (((c.sz + 32 : Nat) : Int) != ((c.sz + 32 : Nat) : Int)) = false := by simp
  have t3 : ((page : Int) != (page : Int)) = false := by simp
  have hwd0 : c.sz + 32 ≤ 544 := by omega
  generalize hwd : c.sz + 32 = wd at HW HL t2 hwd0 ⊢
  have HWD := Lib.hid hwd
  obtain ⟨f, hf⟩ : ∃ f, fnd c.fl c.since = f := ⟨_, rfl⟩
  have ep : prC c k page l = endC f.kind (if f.kind = 1 then stC c else if f.kind = 2 ∨ f.kind = 3 then { stC c with pg := up2 c.pg k page (some (tornL wd f.data)) } else { stC c with pg := up2 c.pg k page (some l) }) := by unfold prC; rw [hf, hwd]
  generalize prC c k page l = C at ep ⊢
  have HC1 : Hid (f.kind = 1 → endC f.kind (stC c) = C) := Lib.hid fun g => by rw [ep, if_pos g]
  have HC2 : Hid (¬ f.kind = 1 → f.kind = 2 ∨ f.kind = 3 → endC f.kind { stC c with pg := up2 c.pg k page (some (tornL wd f.data)) } = C) := Lib.hid fun g g2 => by rw [ep, if_neg g, if_pos g2]
  have HC3 : Hid (¬ f.kind = 1 → ¬ (f.kind = 2 ∨ f.kind = 3) → endC f.kind { stC c with pg := up2 c.pg k page (some l) } = C) := Lib.hid fun g g2 => by rw [ep, if_neg g, if_neg g2]
  rw [hf]
  unfold StP at HS
  rw [hf] at HS
  clear h h1 h2 h3 h4 h5 r1 r2 r3 s1 s2 s3 he hr hl ep hf hwd hgz
  go_enter Tryz.func136, Tryz.ntmps136
  go_wp2_with fail
  refine HR.out.mono ?_
  rintro r w' ⟨rfl, rfl⟩
  go_wp2_with fail
  refine HW.out.mono ?_
  rintro r w' ⟨rfl, rfl⟩
  go_wp2_with fail
  refine HNx.out.mono ?_
  rintro r w' ⟨rfl, rfl⟩
  go_wp2_with fail
  refine HS.out.mono ?_
  rintro r w1 ⟨⟨da, dc, rfl, hda, hdc⟩, hch, hkp⟩
  have HXl := Lib.hid H.out.old
  have HFX := Lib.hid H.out.inX
  have C2 := Lib.hid (hch.below ((Below.refl _ _).alloc (Nat.le_refl _) (.cells #[.int .i64 f.at', .int .i64 f.kind, .slice da f.data.length dc] 139)))
  have K2 := Lib.hid (hkp.alloc (.cells #[.int .i64 f.at', .int .i64 f.kind, .slice da f.data.length dc] 139))
  have B2 := Lib.hid (Blk.new w1 139 #[.int .i64 f.at', .int .i64 f.kind, .slice da f.data.length dc])
  have D2 := Lib.hid (hda.kp (F := fun _ => False) (Kp.of_below ((Below.refl _ _).alloc (Nat.le_refl _) (.cells #[.int .i64 f.at', .int .i64 f.kind, .slice da f.data.length dc] 139))) (fun _ g => g.elim))
  have L2 := Lib.hid (HRw.out.kp K2.out HFX.out)
  have hws : w.heap.size ≤ w1.heap.size := hkp.size
  have HBC : Hid (o.bc ≠ w1.heap.size ∧ o.bb ≠ w1.heap.size ∧ o.pb k ≠ w1.heap.size) := Lib.hid (by
    have h1 := HXl.out _ (HFX.out o.bc (.inl rfl))
    have h2 := HXl.out _ (HFX.out o.bb (.inr (.inl rfl)))
    have h3 := HXl.out _ (HFX.out (o.pb k) (.inr (.inr ⟨k, hk, rfl⟩)))
    omega)
  clear hch hkp hda HS HR HNx H HRw
  by_cases e1 : f.kind = 1
  · have HC := Lib.hid (HC1.out e1)
    have t4 : (f.kind == 1) = true := beq_iff_eq.2 e1
    have HE := Lib.hid (end_any C2.out f.kind)
    clear HC1 HC2 HC3 e1
    go_wp2_with fail
    refine HE.out.mono ?_
    rintro r w3 ⟨rfl, hc3, hk3⟩
    rw [HC.out] at hc3
    have HC3 := Lib.hid hc3
    have HK3 := Lib.hid (K2.out.trans hk3)
    clear hc3 hk3
    go_wp2
    go_ret
    exact ⟨rfl, HC3.out, HK3.out⟩
  have t4 : (f.kind == 1) = false := beq_eq_false_iff_ne.2 e1
  by_cases e2 : f.kind = 2 ∨ f.kind = 3
  · have HC := Lib.hid (HC2.out e1 e2)
    clear HC1 HC2 HC3
    have body : ∀ b : Bool, (f.kind == 2) = b → (b = false → (f.kind == 3) = true) → True := fun _ _ _ => trivial
    rcases e2 with e2 | e2
    · have t5 : (f.kind == 2) = true := beq_iff_eq.2 e2
      clear e1 e2 body
      go_wp2_with fail
      generalize (w1.alloc (.cells #[.int .i64 f.at', .int .i64 f.kind, .slice da f.data.length dc] 139)) = W at C2 K2 B2 D2 L2 ⊢
      generalize w1.heap.size = fb at B2 hws HBC ⊢
      have c1 : W.cell? ⟨fb, 1, none⟩ = some (.int .i64 f.kind) := B2.out.cell 1
      have c2 : W.cell? ⟨fb, 2, none⟩ = some (.slice da f.data.length dc) := B2.out.cell 2
      obtain ⟨x0, -⟩ := C2.out.bcell (k := k) hk
      obtain ⟨v0, y0, -⟩ := C2.out.pcell (k := k) (i := page) hk hp
      have z0 := C2.out.pfroz (k := k) hk page
      have x0 : W.cell? ⟨o.bb, k * 4, none⟩ = some (.slice (some ⟨o.pb k, 0, none⟩) c.np c.np) := x0
      have p0 : (0 : Int) ≤ (page : Int) := by omega
      have p1 : (page : Int) < (c.np : Int) := by omega
      have SS := Lib.hid (fun w' (h : Below W.heap.size W w') => (⟨(h.cell (block_lt_of_cell x0)).trans x0, (h.cell (block_lt_of_cell c2)).trans c2, (h.cell (block_lt_of_cell c1)).trans c1, (h.cell (block_lt_of_cell y0)).trans y0, (h.frozen (block_lt_of_cell y0)).trans z0, h⟩ :
        w'.cell? ⟨o.bb, k * 4, none⟩ = some (.slice (some ⟨o.pb k, 0, none⟩) c.np c.np) ∧ w'.cell? ⟨fb, 2, none⟩ = some (.slice da f.data.length dc) ∧ w'.cell? ⟨fb, 1, none⟩ = some (.int .i64 f.kind) ∧ w'.cell? ⟨o.pb k, page, none⟩ = some v0 ∧ w'.frozen? ⟨o.pb k, page, none⟩ = false ∧ Below W.heap.size W w'))
      have HWd : Hid (∀ w', Below W.heap.size W w' → Calls Tryz.prog 49 #[o.p] w' fun e w'' => e = .returned (.int .i64 (wd : Int)) ∧ w' = w'') := Lib.hid (fun w' h => by
        have := width_any (C2.out.below h)
        rw [show (stC c).sz = c.sz from rfl, HWD.out] at this
        exact this)
      have HTo := Lib.hid (fun w' (h : Below W.heap.size W w') => torn_any wd f.data.length dc da f.data w' (by omega) (D2.out.kp (F := fun _ => False) (Kp.of_below h) (fun _ g => g.elim)).1 rfl)
      go_region_with (first
        | (go_at_call 49; refine (HWd.out _ ?_).mono ?_; (first | exact (Below.refl _ W).drew | assumption); rintro r w' ⟨rfl, rfl⟩)
        | (go_at_call 156; refine (HTo.out _ ?_).mono ?_; exact (Below.refl _ W).drew; rintro r w3 ⟨rfl, hrb, hb3⟩; obtain ⟨x0', c2', c1', y0', z0', hb3'⟩ := SS.out w3 (below_undraw hb3)))
      all_goals
        obtain ⟨q1, q2, q3⟩ := put_new (w := w) (c0 := c) (page := page) (fb := fb) (cc := wd) C2.out hb3' hk hp rfl K2.out HWD.out (RB.rw (show RB w3 W.heap.size (tornL wd f.data) from hrb) (tornL_u8 D2.out.1.1) (by rw [tornL_len]; unfold maxLen; omega)) (tornL_len _ _) (Nat.le_refl _) (Nat.le_refl _) HBC.out.2.2 c1'
        have Q1 := Lib.hid (end_any q1 f.kind)
        have Q2 := Lib.hid q2
        have q3' := q3
        clear q1 q2 q3 x0' c2' c1' y0' z0' hrb
        go_wp2_with fail
        refine Q1.out.mono ?_
        rintro r w5 ⟨rfl, hc5, hk5⟩
        have HC5 := Lib.hid hc5
        have HK5 := Lib.hid (Q2.out.trans hk5)
        clear hc5 hk5
        go_wp2
        go_ret
        exact ⟨rfl, by rw [← HC.out]; exact HC5.out, HK5.out⟩
    · have t5 : (f.kind == 2) = false := beq_eq_false_iff_ne.2 (by omega)
      have t6 : (f.kind == 3) = true := beq_iff_eq.2 e2
      clear e1 e2 body
      go_wp2_with fail
      generalize (w1.alloc (.cells #[.int .i64 f.at', .int .i64 f.kind, .slice da f.data.length dc] 139)) = W at C2 K2 B2 D2 L2 ⊢
      generalize w1.heap.size = fb at B2 hws HBC ⊢
      have c1 : W.cell? ⟨fb, 1, none⟩ = some (.int .i64 f.kind) := B2.out.cell 1
      have c2 : W.cell? ⟨fb, 2, none⟩ = some (.slice da f.data.length dc) := B2.out.cell 2
      obtain ⟨x0, -⟩ := C2.out.bcell (k := k) hk
      obtain ⟨v0, y0, -⟩ := C2.out.pcell (k := k) (i := page) hk hp
      have z0 := C2.out.pfroz (k := k) hk page
      have x0 : W.cell? ⟨o.bb, k * 4, none⟩ = some (.slice (some ⟨o.pb k, 0, none⟩) c.np c.np) := x0
      have p0 : (0 : Int) ≤ (page : Int) := by omega
      have p1 : (page : Int) < (c.np : Int) := by omega
      have SS := Lib.hid (fun w' (h : Below W.heap.size W w') => (⟨(h.cell (block_lt_of_cell x0)).trans x0, (h.cell (block_lt_of_cell c2)).trans c2, (h.cell (block_lt_of_cell c1)).trans c1, (h.cell (block_lt_of_cell y0)).trans y0, (h.frozen (block_lt_of_cell y0)).trans z0, h⟩ :
        w'.cell? ⟨o.bb, k * 4, none⟩ = some (.slice (some ⟨o.pb k, 0, none⟩) c.np c.np) ∧ w'.cell? ⟨fb, 2, none⟩ = some (.slice da f.data.length dc) ∧ w'.cell? ⟨fb, 1, none⟩ = some (.int .i64 f.kind) ∧ w'.cell? ⟨o.pb k, page, none⟩ = some v0 ∧ w'.frozen? ⟨o.pb k, page, none⟩ = false ∧ Below W.heap.size W w'))
      have HWd : Hid (∀ w', Below W.heap.size W w' → Calls Tryz.prog 49 #[o.p] w' fun e w'' => e = .returned (.int .i64 (wd : Int)) ∧ w' = w'') := Lib.hid (fun w' h => by
        have := width_any (C2.out.below h)
        rw [show (stC c).sz = c.sz from rfl, HWD.out] at this
        exact this)
      have HTo := Lib.hid (fun w' (h : Below W.heap.size W w') => torn_any wd f.data.length dc da f.data w' (by omega) (D2.out.kp (F := fun _ => False) (Kp.of_below h) (fun _ g => g.elim)).1 rfl)
      go_region_with (first
        | (go_at_call 49; refine (HWd.out _ ?_).mono ?_; (first | exact (Below.refl _ W).drew | assumption); rintro r w' ⟨rfl, rfl⟩)
        | (go_at_call 156; refine (HTo.out _ ?_).mono ?_; exact (Below.refl _ W).drew; rintro r w3 ⟨rfl, hrb, hb3⟩; obtain ⟨x0', c2', c1', y0', z0', hb3'⟩ := SS.out w3 (below_undraw hb3)))
      all_goals
        obtain ⟨q1, q2, q3⟩ := put_new (w := w) (c0 := c) (page := page) (fb := fb) (cc := wd) C2.out hb3' hk hp rfl K2.out HWD.out (RB.rw (show RB w3 W.heap.size (tornL wd f.data) from hrb) (tornL_u8 D2.out.1.1) (by rw [tornL_len]; unfold maxLen; omega)) (tornL_len _ _) (Nat.le_refl _) (Nat.le_refl _) HBC.out.2.2 c1'
        have Q1 := Lib.hid (end_any q1 f.kind)
        have Q2 := Lib.hid q2
        have q3' := q3
        clear q1 q2 q3 x0' c2' c1' y0' z0' hrb
        go_wp2_with fail
        refine Q1.out.mono ?_
        rintro r w5 ⟨rfl, hc5, hk5⟩
        have HC5 := Lib.hid hc5
        have HK5 := Lib.hid (Q2.out.trans hk5)
        clear hc5 hk5
        go_wp2
        go_ret
        exact ⟨rfl, by rw [← HC.out]; exact HC5.out, HK5.out⟩
  · have HC := Lib.hid (HC3.out e1 e2)
    have t5 : (f.kind == 2) = false := beq_eq_false_iff_ne.2 (by omega)
    have t6 : (f.kind == 3) = false := beq_eq_false_iff_ne.2 (by omega)
    clear HC1 HC2 HC3 e1 e2
    have hl0 : 0 < wd := by have := HWD.out; omega
    obtain ⟨ab, ao, rfl⟩ : ∃ b off, a = some ⟨b, off, none⟩ := by
      rcases L2.out.1.2.2 with h | ⟨b, off, h, _⟩
      · rw [h] at HL; have := HL.out; simp at this; omega
      · exact ⟨b, off, h⟩
    go_wp2_with fail
    generalize (w1.alloc (.cells #[.int .i64 f.at', .int .i64 f.kind, .slice da f.data.length dc] 139)) = W at C2 K2 B2 D2 L2 ⊢
    generalize w1.heap.size = fb at B2 hws HBC ⊢
    have c1 : W.cell? ⟨fb, 1, none⟩ = some (.int .i64 f.kind) := B2.out.cell 1
    have c2 : W.cell? ⟨fb, 2, none⟩ = some (.slice da f.data.length dc) := B2.out.cell 2
    obtain ⟨x0, -⟩ := C2.out.bcell (k := k) hk
    obtain ⟨v0, y0, -⟩ := C2.out.pcell (k := k) (i := page) hk hp
    have z0 := C2.out.pfroz (k := k) hk page
    have x0 : W.cell? ⟨o.bb, k * 4, none⟩ = some (.slice (some ⟨o.pb k, 0, none⟩) c.np c.np) := x0
    have p0 : (0 : Int) ≤ (page : Int) := by omega
    have p1 : (page : Int) < (c.np : Int) := by omega
    have SS := Lib.hid (fun w' (h : Below W.heap.size W w') => (⟨(h.cell (block_lt_of_cell x0)).trans x0, (h.cell (block_lt_of_cell c2)).trans c2, (h.cell (block_lt_of_cell c1)).trans c1, (h.cell (block_lt_of_cell y0)).trans y0, (h.frozen (block_lt_of_cell y0)).trans z0, h⟩ :
      w'.cell? ⟨o.bb, k * 4, none⟩ = some (.slice (some ⟨o.pb k, 0, none⟩) c.np c.np) ∧ w'.cell? ⟨fb, 2, none⟩ = some (.slice da f.data.length dc) ∧ w'.cell? ⟨fb, 1, none⟩ = some (.int .i64 f.kind) ∧ w'.cell? ⟨o.pb k, page, none⟩ = some v0 ∧ w'.frozen? ⟨o.pb k, page, none⟩ = false ∧ Below W.heap.size W w'))
    have HCl := Lib.hid (fun w' (h : Below W.heap.size W w') => clone_any wd cap ab ao l w' (L2.out.kp (F := fun _ => False) (Kp.of_below h) (fun _ g => g.elim)).1 HL.out ⟨hl0, by omega⟩)
    go_region_with (first
      | (go_at_call 22; refine (HCl.out _ ?_).mono ?_; exact (Below.refl _ W).drew; rintro r w3 ⟨⟨g, cc, rfl, hcc, hgg, hrb⟩, hb3⟩; obtain ⟨x0', c2', c1', y0', z0', hb3'⟩ := SS.out w3 (below_undraw hb3)))
    all_goals
      obtain ⟨q1, q2, q3⟩ := put_new (w := w) (c0 := c) (page := page) (fb := fb) (cc := cc) C2.out hb3' hk hp rfl K2.out HWD.out hrb HL.out hcc hgg HBC.out.2.2 c1'
      have Q1 := Lib.hid (end_any q1 f.kind)
      have Q2 := Lib.hid q2
      have q3' := q3
      clear q1 q2 q3 x0' c2' c1' y0' z0' hrb
      go_wp2_with fail
      refine Q1.out.mono ?_
      rintro r w5 ⟨rfl, hc5, hk5⟩
      have HC5 := Lib.hid hc5
      have HK5 := Lib.hid (Q2.out.trans hk5)
      clear hc5 hk5
      go_wp2
      go_ret
      exact ⟨rfl, by rw [← HC.out]; exact HC5.out, HK5.out⟩
end Go.Proofs.YtbfifppdcmimaaaGreat
