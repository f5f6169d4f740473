/-
  What is done with a chip: Erase, Mark, Start, Lose, Read. Nothing of one statement alone stands here.
-/
import Derived.Test.YtnnpdlebgfjihaaNandErase
namespace Go.Proofs.Ytnnpdlebgfjihaa
open Go.RowKit Crcm Go.ChangeShapes

set_option maxRecDepth 100000 in
theorem start_any {w : World} {X : Nat → Prop} {o : Own} {c : Ch} (h : ChAt w X o c) :
    Calls Try.prog 12 #[o.p] w fun e w' => e = .returned (.tuple #[]) ∧ ChAt w' X o { c with up := true } ∧ Kp (o.F c.nb) w w' := by
  obtain ⟨-, -, -, -, c4, -⟩ := h.cell
  have f4 := h.froz 4
  have H := Lib.hid h
  clear h
  go_enter Try.func12, Try.ntmps12
  go_wp2
  go_end0
  exact ⟨rfl, H.out.putUp true, (Kp.refl _ _).setCell (.inl (.inl rfl)) _⟩
set_option maxRecDepth 100000 in
theorem lose_any {w : World} {X : Nat → Prop} {o : Own} {c : Ch} (h : ChAt w X o c) :
    Calls Try.prog 48 #[o.p] w fun e w' => e = .returned (.tuple #[]) ∧ ChAt w' X o { c with up := false } ∧ Kp (o.F c.nb) w w' := by
  obtain ⟨-, -, -, -, c4, -⟩ := h.cell
  have f4 := h.froz 4
  have H := Lib.hid h
  clear h
  go_enter Try.func48, Try.ntmps48
  go_wp2
  go_end0
  exact ⟨rfl, H.out.putUp false, (Kp.refl _ _).setCell (.inl (.inl rfl)) _⟩
set_option maxRecDepth 100000 in
theorem mark_no {w : World} {X : Nat → Prop} {o : Own} {c : Ch} (h : ChAt w X o c) (k : Int) (hk : reE c k ≠ 0) :
    Calls Try.prog 95 #[o.p, .int .i64 k] w fun e w' => e = .returned (.int .i64 (reE c k)) ∧ w = w' := by
  have HR := Lib.hid (reach_no h k hk)
  generalize reE c k = x at HR hk ⊢
  have t0 : (x != 0) = true := bne_iff_ne.2 hk
  clear h hk
  go_enter Try.func95, Try.ntmps95
  go_wp2_with fail
  refine HR.out.mono ?_
  rintro r w' ⟨rfl, rfl⟩
  go_wp2
  go_ret
  exact ⟨rfl, rfl⟩
set_option maxRecDepth 100000 in
theorem mark_yes {w : World} {X : Nat → Prop} {o : Own} {c : Ch} (h : ChAt w X o c) (k : Nat) (hk : reE c k = 0) :
    Calls Try.prog 95 #[o.p, .int .i64 k] w fun e w' => e = .returned (.int .i64 0) ∧ ChAt w' X o { c with bad := up1 c.bad k true } ∧ Kp (o.F c.nb) w w' := by
  have HR := Lib.hid (reach_yes h k hk)
  have hkn : k < c.nb := by have := (reE_zero hk).2.2; omega
  obtain ⟨-, -, b2, -⟩ := h.bcell hkn
  have f2 := h.bfroz (k * 4 + 2)
  have HP := Lib.hid (h.putBad k hkn true)
  clear h hk
  go_enter Try.func95, Try.ntmps95
  go_wp2_with fail
  refine HR.out.mono ?_
  rintro r w' ⟨rfl, rfl⟩
  go_wp2
  go_ret
  exact ⟨rfl, HP.out, (Kp.refl _ _).setCell (p := ⟨o.bb, k * 4 + 2, none⟩) (.inl (.inr (.inl rfl))) _⟩

theorem Kp.undraw {F : Nat → Prop} {w w' : World} (h : Kp F w.drew w') : Kp F w w' := ⟨h.os, h.tape, h.output, h.size, h.block⟩
/-- what is answered ahead of an erasing (0: it goes on) -/
def erE (c : Ch) (k : Int) : Int := if reE c k = 0 then (if c.bad k.toNat then 13 else 0) else reE c k
set_option maxRecDepth 100000 in
theorem erase_no {w : World} {X : Nat → Prop} {o : Own} {c : Ch} (h : ChAt w X o c) (k : Int) (hk : erE c k ≠ 0) :
    Calls Try.prog 62 #[o.p, .int .i64 k] w fun e w' => e = .returned (.int .i64 (erE c k)) ∧ w = w' := by
  by_cases h0 : reE c k = 0
  · obtain ⟨s1, s2, s3⟩ := reE_zero h0
    obtain ⟨k, rfl⟩ : ∃ n : Nat, k = n := ⟨k.toNat, by omega⟩
    have HR := Lib.hid (reach_yes h k h0)
    obtain ⟨-, -, b2, -⟩ := h.bcell (k := k) (by omega)
    have hb : c.bad k = true := by
      cases hb : c.bad k with
      | true => rfl
      | false => exact absurd (by unfold erE; rw [if_pos h0, Int.toNat_natCast, if_neg (by rw [hb]; simp)]) hk
    have e : erE c k = 13 := by unfold erE; rw [if_pos h0, Int.toNat_natCast, if_pos hb]
    rw [e]
    rw [hb] at b2
    clear h hk h0 s1 s2 s3 hb e
    go_enter Try.func62, Try.ntmps62
    go_wp2_with fail
    refine HR.out.mono ?_
    rintro r w' ⟨rfl, rfl⟩
    go_wp2
    go_ret
    exact ⟨rfl, rfl⟩
  · have e : erE c k = reE c k := by unfold erE; rw [if_neg h0]
    rw [e]
    have HR := Lib.hid (reach_no h k h0)
    generalize reE c k = x at HR h0 ⊢
    have t0 : (x != 0) = true := bne_iff_ne.2 h0
    clear h hk e h0
    go_enter Try.func62, Try.ntmps62
    go_wp2_with fail
    refine HR.out.mono ?_
    rintro r w' ⟨rfl, rfl⟩
    go_wp2
    go_ret
    exact ⟨rfl, rfl⟩
/-- a chip behind an erasing that went on -/
def erD (c : Ch) (k : Nat) : Ch :=
  endC (fnd c.fl c.since).kind
    (if (fnd c.fl c.since).kind = 1 then stC c else if (fnd c.fl c.since).kind = 2 ∨ (fnd c.fl c.since).kind = 3 then boC (stC c) k (fnd c.fl c.since).data else erC (stC c) k)

set_option maxRecDepth 100000 in
set_option maxHeartbeats 4000000 in
theorem erase_yes {w : World} {X : Nat → Prop} {o : Own} {c : Ch} (h : ChAt w X o c) (k : Nat) (he : erE c k = 0) :
    Calls Try.prog 62 #[o.p, .int .i64 k] w fun e w' => e = .returned (.int .i64 (endE (fnd c.fl c.since).kind)) ∧ ChAt w' X o (erD c k) ∧ Kp (o.F c.nb) w w' := by
  have h0 : reE c k = 0 := by
    unfold erE at he
    split at he
    · assumption
    · exact absurd he (by assumption)
  have hbad : c.bad k = false := by
    unfold erE at he
    rw [if_pos h0, Int.toNat_natCast] at he
    cases hb : c.bad k with
    | true => rw [hb, if_pos rfl] at he; cases he
    | false => rfl
  have hk : k < c.nb := by have := (reE_zero h0).2.2; omega
  have HR := Lib.hid (reach_yes h k h0)
  obtain ⟨-, -, b2, -⟩ := h.bcell hk
  rw [hbad] at b2
  have HS := Lib.hid (stroke_any h)
  have H := Lib.hid h
  obtain ⟨f, hf⟩ : ∃ f, fnd c.fl c.since = f := ⟨_, rfl⟩
  have ep : erD c k = endC f.kind (if f.kind = 1 then stC c else if f.kind = 2 ∨ f.kind = 3 then boC (stC c) k f.data else erC (stC c) k) := by unfold erD; rw [hf]
  generalize erD c k = C at ep ⊢
  have HC1 : Hid (f.kind = 1 → endC f.kind (stC c) = C) := Lib.hid fun g => by rw [ep, if_pos g]
  have HC2 : Hid (¬ f.kind = 1 → f.kind = 2 ∨ f.kind = 3 → endC f.kind (boC (stC c) k f.data) = C) := Lib.hid fun g g2 => by rw [ep, if_neg g, if_pos g2]
  have HC3 : Hid (¬ f.kind = 1 → ¬ (f.kind = 2 ∨ f.kind = 3) → endC f.kind (erC (stC c) k) = C) := Lib.hid fun g g2 => by rw [ep, if_neg g, if_neg g2]
  rw [hf]
  unfold StP at HS
  rw [hf] at HS
  clear h h0 he hbad ep hf
  go_enter Try.func62, Try.ntmps62
  go_wp2_with fail
  refine HR.out.mono ?_
  rintro r w' ⟨rfl, rfl⟩
  go_wp2_with fail
  refine HS.out.mono ?_
  rintro r w1 ⟨⟨da, dc, rfl, hda, hdc⟩, hch, hkp⟩
  have HXl := Lib.hid H.out.old
  have HFX := Lib.hid H.out.inX
  have C2 := Lib.hid (hch.below ((Below.refl _ _).alloc (Nat.le_refl _) (.cells #[.int .i64 f.at', .int .i64 f.kind, .slice da f.data.length dc] 69)))
  have K2 := Lib.hid (hkp.alloc (.cells #[.int .i64 f.at', .int .i64 f.kind, .slice da f.data.length dc] 69))
  have B2 := Lib.hid (Blk.new w1 69 #[.int .i64 f.at', .int .i64 f.kind, .slice da f.data.length dc])
  have D2 := Lib.hid (hda.kp (F := fun _ => False) (Kp.of_below ((Below.refl _ _).alloc (Nat.le_refl _) (.cells #[.int .i64 f.at', .int .i64 f.kind, .slice da f.data.length dc] 69))) (fun _ g => g.elim))
  have hws : w.heap.size ≤ w1.heap.size := hkp.size
  have HBC : Hid (∀ b, o.F c.nb b → b ≠ w1.heap.size) := Lib.hid (fun b hb => by
    have h1 := HXl.out _ (HFX.out b hb)
    omega)
  clear hch hkp hda HS HR H
  by_cases e1 : f.kind = 1
  · have HC := Lib.hid (HC1.out e1)
    have t4 : (f.kind == 1) = true := beq_iff_eq.2 e1
    have HE := Lib.hid (end_any C2.out f.kind)
    clear HC1 HC2 HC3 e1
    go_wp2_with fail
    refine HE.out.mono ?_
    rintro r w3 ⟨rfl, hc3, hk3⟩
    rw [HC.out] at hc3
    have HC3 := Lib.hid hc3
    have HK3 := Lib.hid (K2.out.trans hk3)
    clear hc3 hk3
    go_wp2
    go_ret
    exact ⟨rfl, HC3.out, HK3.out⟩
  have t4 : (f.kind == 1) = false := beq_eq_false_iff_ne.2 e1
  by_cases e2 : f.kind = 2 ∨ f.kind = 3
  · have HC := Lib.hid (HC2.out e1 e2)
    clear HC1 HC2 HC3
    rcases e2 with e2 | e2
    · have t5 : (f.kind == 2) = true := beq_iff_eq.2 e2
      clear e1 e2
      go_wp2_with fail
      generalize (w1.alloc (.cells #[.int .i64 f.at', .int .i64 f.kind, .slice da f.data.length dc] 69)) = W at C2 K2 B2 D2 ⊢
      generalize w1.heap.size = fb at B2 hws HBC ⊢
      have c1 : W.cell? ⟨fb, 1, none⟩ = some (.int .i64 f.kind) := B2.out.cell 1
      have c2 : W.cell? ⟨fb, 2, none⟩ = some (.slice da f.data.length dc) := B2.out.cell 2
      obtain ⟨wd, hwd⟩ : ∃ wd, c.sz + 32 = wd := ⟨_, rfl⟩
      have HWD := Lib.hid hwd
      clear hwd
      have HWd : Hid (∀ w', Below W.heap.size W w' → Calls Try.prog 51 #[o.p] w' fun e w'' => e = .returned (.int .i64 (wd : Int)) ∧ w' = w'') := Lib.hid (fun w' h => by
        have := width_any (C2.out.below h)
        rw [show (stC c).sz = c.sz from rfl, HWD.out] at this
        exact this)
      have HBo := Lib.hid (fun w' (h : Below W.heap.size W w') => breakOff_any (C2.out.below h) k hk da f.data.length dc wd f.data (D2.out.kp (F := fun _ => False) (Kp.of_below h) (fun _ g => g.elim)) rfl HWD.out)
      go_region_with (first
        | (go_at_call 51; refine (HWd.out _ ?_).mono ?_; (first | exact (Below.refl _ W).drew | assumption); rintro r w' ⟨rfl, rfl⟩)
        | (go_at_call 93; refine (HBo.out _ ?_).mono ?_; exact (Below.refl _ W).drew; rintro r w3 ⟨rfl, hc3, hk3⟩))
      all_goals
        have q3 : w3.cell? ⟨fb, 1, none⟩ = some (.int .i64 f.kind) := (hk3.cell (p := ⟨fb, 1, none⟩) (block_lt_of_cell c1) (fun g => HBC.out _ g rfl)).trans c1
        have Q1 := Lib.hid (end_any hc3 f.kind)
        have Q2 := Lib.hid (K2.out.trans (Kp.undraw hk3))
        clear hc3 hk3
        go_wp2_with fail
        refine Q1.out.mono ?_
        rintro r w5 ⟨rfl, hc5, hk5⟩
        have HC5 := Lib.hid hc5
        have HK5 := Lib.hid (Q2.out.trans hk5)
        clear hc5 hk5
        go_wp2
        go_ret
        exact ⟨rfl, by rw [← HC.out]; exact HC5.out, HK5.out⟩
    · have t5 : (f.kind == 2) = false := beq_eq_false_iff_ne.2 (by omega)
      have t6 : (f.kind == 3) = true := beq_iff_eq.2 e2
      clear e1 e2
      go_wp2_with fail
      generalize (w1.alloc (.cells #[.int .i64 f.at', .int .i64 f.kind, .slice da f.data.length dc] 69)) = W at C2 K2 B2 D2 ⊢
      generalize w1.heap.size = fb at B2 hws HBC ⊢
      have c1 : W.cell? ⟨fb, 1, none⟩ = some (.int .i64 f.kind) := B2.out.cell 1
      have c2 : W.cell? ⟨fb, 2, none⟩ = some (.slice da f.data.length dc) := B2.out.cell 2
      obtain ⟨wd, hwd⟩ : ∃ wd, c.sz + 32 = wd := ⟨_, rfl⟩
      have HWD := Lib.hid hwd
      clear hwd
      have HWd : Hid (∀ w', Below W.heap.size W w' → Calls Try.prog 51 #[o.p] w' fun e w'' => e = .returned (.int .i64 (wd : Int)) ∧ w' = w'') := Lib.hid (fun w' h => by
        have := width_any (C2.out.below h)
        rw [show (stC c).sz = c.sz from rfl, HWD.out] at this
        exact this)
      have HBo := Lib.hid (fun w' (h : Below W.heap.size W w') => breakOff_any (C2.out.below h) k hk da f.data.length dc wd f.data (D2.out.kp (F := fun _ => False) (Kp.of_below h) (fun _ g => g.elim)) rfl HWD.out)
      go_region_with (first
        | (go_at_call 51; refine (HWd.out _ ?_).mono ?_; (first | exact (Below.refl _ W).drew | assumption); rintro r w' ⟨rfl, rfl⟩)
        | (go_at_call 93; refine (HBo.out _ ?_).mono ?_; exact (Below.refl _ W).drew; rintro r w3 ⟨rfl, hc3, hk3⟩))
      all_goals
        have q3 : w3.cell? ⟨fb, 1, none⟩ = some (.int .i64 f.kind) := (hk3.cell (p := ⟨fb, 1, none⟩) (block_lt_of_cell c1) (fun g => HBC.out _ g rfl)).trans c1
        have Q1 := Lib.hid (end_any hc3 f.kind)
        have Q2 := Lib.hid (K2.out.trans (Kp.undraw hk3))
        clear hc3 hk3
        go_wp2_with fail
        refine Q1.out.mono ?_
        rintro r w5 ⟨rfl, hc5, hk5⟩
        have HC5 := Lib.hid hc5
        have HK5 := Lib.hid (Q2.out.trans hk5)
        clear hc5 hk5
        go_wp2
        go_ret
        exact ⟨rfl, by rw [← HC.out]; exact HC5.out, HK5.out⟩
  · have HC := Lib.hid (HC3.out e1 e2)
    have t5 : (f.kind == 2) = false := beq_eq_false_iff_ne.2 (by omega)
    have t6 : (f.kind == 3) = false := beq_eq_false_iff_ne.2 (by omega)
    have HEr := Lib.hid (berase_any C2.out k hk)
    clear HC1 HC2 HC3 e1 e2
    go_wp2_with fail
    refine HEr.out.mono ?_
    rintro r w3 ⟨rfl, hc3, hk3⟩
    have q3 : w3.cell? ⟨w1.heap.size, 1, none⟩ = some (.int .i64 f.kind) := (hk3.cell (p := ⟨w1.heap.size, 1, none⟩) (by simp) (fun g => HBC.out _ g rfl)).trans (B2.out.cell 1)
    have Q1 := Lib.hid (end_any hc3 f.kind)
    have Q2 := Lib.hid (K2.out.trans hk3)
    clear hc3 hk3
    go_wp2_with fail
    refine Q1.out.mono ?_
    rintro r w5 ⟨rfl, hc5, hk5⟩
    have HC5 := Lib.hid hc5
    have HK5 := Lib.hid (Q2.out.trans hk5)
    clear hc5 hk5
    go_wp2
    go_ret
    exact ⟨rfl, by rw [← HC.out]; exact HC5.out, HK5.out⟩

/-- what is read of a page -/
def rdL (c : Ch) (k page : Nat) : List Int := (c.pg k page).getD (List.replicate (c.sz + 32) 255)
set_option maxRecDepth 100000 in
theorem read_no {w : World} {X : Nat → Prop} {o : Own} {c : Ch} (h : ChAt w X o c) (k page : Int) (hk : rpE c k page ≠ 0) :
    Calls Try.prog 13 #[o.p, .int .i64 k, .int .i64 page] w fun e w' => e = .returned (.tuple #[.slice none 0 0, .int .i64 (rpE c k page)]) ∧ w = w' := by
  have HR := Lib.hid (reachPage_no h k page hk)
  generalize rpE c k page = x at HR hk ⊢
  have t0 : (x != 0) = true := bne_iff_ne.2 hk
  clear h hk
  go_enter Try.func13, Try.ntmps13
  go_wp2_with fail
  refine HR.out.mono ?_
  rintro r w' ⟨rfl, rfl⟩
  go_wp2
  go_ret2
  exact ⟨rfl, rfl⟩
set_option maxRecDepth 100000 in
set_option maxHeartbeats 1000000 in
theorem read_yes {w : World} {X : Nat → Prop} {o : Own} {c : Ch} (h : ChAt w X o c) (k page : Nat) (hk : rpE c k page = 0) :
    Calls Try.prog 13 #[o.p, .int .i64 k, .int .i64 page] w fun e w' => (∃ g cc, e = .returned (.tuple #[.slice (some ⟨g, 0, none⟩) (c.sz + 32 : Nat) cc, .int .i64 0]) ∧ c.sz + 32 ≤ cc ∧ w.heap.size ≤ g ∧ Rw w' (some ⟨g, 0, none⟩) (rdL c k page) ∧ (rdL c k page).length = c.sz + 32) ∧
      ChAt w' X o { c with reads := wrap64 (c.reads + 1) } ∧ Kp (o.F c.nb) w w' := by
  obtain ⟨h0, h1, h2⟩ := rpE_zero hk
  have hkn : k < c.nb := by have := (reE_zero h0).2.2; omega
  have hpn : page < c.np := by omega
  obtain ⟨-, -, -, -, -, -, -, c8⟩ := h.cell
  have f8 := h.froz 8
  have HR := Lib.hid (reachPage_yes h k page hk)
  have hP := h.putReads (wrap64 (c.reads + 1))
  have hgz : c.sz ≤ 512 := by have := h.good; unfold Gd at this; omega
  have hX := Lib.hid h.old
  have K1 : Hid (Kp (o.F c.nb) w (w.setCell ⟨o.bc, 8, none⟩ (.int .i64 (wrap64 (c.reads + 1))))) := Lib.hid ((Kp.refl _ _).setCell (p := ⟨o.bc, 8, none⟩) (.inl (.inl rfl)) _)
  obtain ⟨x0, -⟩ := hP.bcell (k := k) hkn
  have x0 : (w.setCell ⟨o.bc, 8, none⟩ (.int .i64 (wrap64 (c.reads + 1)))).cell? ⟨o.bb, k * 4, none⟩ = some (.slice (some ⟨o.pb k, 0, none⟩) c.np c.np) := x0
  obtain ⟨v, y0, hv⟩ := hP.pcell (k := k) (i := page) hkn hpn
  have hv : PgAt _ X v (c.sz + 32) (c.pg k page) := hv
  have hsz : (w.setCell ⟨o.bc, 8, none⟩ (.int .i64 (wrap64 (c.reads + 1)))).heap.size = w.heap.size := by simp [World.setCell]
  have HP := Lib.hid hP
  have HWd : Hid (Calls Try.prog 51 #[o.p] (w.setCell ⟨o.bc, 8, none⟩ (.int .i64 (wrap64 (c.reads + 1)))) fun e w' => e = .returned (.int .i64 ((c.sz + 32 : Nat) : Int)) ∧ (w.setCell ⟨o.bc, 8, none⟩ (.int .i64 (wrap64 (c.reads + 1)))) = w') := Lib.hid (by have := width_any hP; exact this)
  have p0 : (0 : Int) ≤ (page : Int) := by omega
  have p1 : (page : Int) < (c.np : Int) := by omega
  have en := fun W a n c => Lib.run_eql_slice_nil (P := Try.prog) W 39 5 a n c 0 0 Try.underlying39
  have hrd : rdL c k page = (c.pg k page).getD (List.replicate (c.sz + 32) 255) := rfl
  have hwd0 : c.sz + 32 ≤ 1000 := by omega
  have hwd1 : 0 < c.sz + 32 := by omega
  generalize c.sz + 32 = wd at HWd hrd hv hwd0 hwd1 ⊢
  generalize rdL c k page = rl at hrd ⊢
  have HRd := Lib.hid hrd
  clear h hk h0 h1 h2 hP hrd hgz
  go_enter Try.func13, Try.ntmps13
  go_wp2_with fail
  refine HR.out.mono ?_
  rintro r w' ⟨rfl, rfl⟩
  cases hpg : c.pg k page with
  | none =>
    rw [hpg] at hv HRd
    have hv : v = .slice none 0 0 := hv
    subst hv
    have HRl : Hid (rl = List.replicate wd 255) := Lib.hid HRd.out
    have HF := Lib.hid (filled_any wd 255 (w.setCell ⟨o.bc, 8, none⟩ (.int .i64 (wrap64 (c.reads + 1)))) (by omega) (by unfold U8; omega))
    rw [hsz] at HF
    clear hpg HRd hsz
    go_wp2_with fail
    refine HWd.out.mono ?_
    rintro r w' ⟨rfl, rfl⟩
    go_wp2_with fail
    refine HF.out.mono ?_
    rintro r w3 ⟨rfl, ⟨cs, hb, hf⟩, hB⟩
    have HRB := Lib.hid (Fil.rb hb hf)
    have HC3 := Lib.hid (HP.out.below (show Below (w.setCell ⟨o.bc, 8, none⟩ (.int .i64 (wrap64 (c.reads + 1)))).heap.size _ w3 from ⟨hB.os, hB.tape, hB.output, hB.size, fun k hk => hB.block k (by simpa [World.setCell] using hk)⟩))
    have HK3 := Lib.hid (K1.out.trans (Kp.of_below (show Below (w.setCell ⟨o.bc, 8, none⟩ (.int .i64 (wrap64 (c.reads + 1)))).heap.size _ w3 from ⟨hB.os, hB.tape, hB.output, hB.size, fun k hk => hB.block k (by simpa [World.setCell] using hk)⟩)))
    clear hb hf hB
    go_wp2
    go_ret2
    refine ⟨⟨w.heap.size, wd, rfl, Nat.le_refl _, Nat.le_refl _, ?_, ?_⟩, HC3.out, HK3.out⟩
    · rw [HRl.out]
      exact HRB.out.rw (fun y hy => by rw [(List.mem_replicate.1 hy).2]; unfold U8; omega) (by rw [List.length_replicate]; unfold maxLen; omega)
    · rw [HRl.out, List.length_replicate]
  | some l =>
    rw [hpg] at hv HRd
    obtain ⟨b, off, cc, rfl, hcc, hll, hrw⟩ := hv
    have HRl : Hid (rl = l) := Lib.hid HRd.out
    have HLl := Lib.hid hll
    have HCl := Lib.hid (clone_any wd cc b off l (w.setCell ⟨o.bc, 8, none⟩ (.int .i64 (wrap64 (c.reads + 1)))) hrw.1 hll ⟨hwd1, by omega⟩)
    have HSz := Lib.hid hsz
    clear hpg HRd hll hrw hsz
    go_wp2_with fail
    refine HCl.out.mono ?_
    rintro r w3 ⟨⟨g, c2, rfl, hc2, hg, hrw2⟩, hB⟩
    have HC3 := Lib.hid (HP.out.below hB)
    have HK3 := Lib.hid (K1.out.trans (Kp.of_below hB))
    have HRw := Lib.hid hrw2
    clear hB hrw2
    go_wp2
    go_ret2
    refine ⟨⟨g, c2, rfl, hc2, by have := HSz.out; omega, ?_, ?_⟩, HC3.out, HK3.out⟩
    · rw [HRl.out]; exact HRw.out
    · rw [HRl.out]; exact HLl.out
end Go.Proofs.Ytnnpdlebgfjihaa
