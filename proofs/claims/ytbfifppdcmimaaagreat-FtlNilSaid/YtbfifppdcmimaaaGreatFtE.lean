/-
  The translation: a chip's blocks erased for formatting. Nothing of one statement alone stands here.
-/
import Derived.Test.YtbfifppdcmimaaaGreatFtA
import Derived.Test.YtbfifppdcmimaaaGreatKP
import Derived.WalkMore
namespace Go.Proofs.YtbfifppdcmimaaaGreat
open Go.RowKit Crcm Gcm Go.ChangeShapes

/-- what erasing the first k blocks comes to: the error, the chip, which blocks are erased -/
def eaF (c : Ch) : Nat → Int × Ch × (Nat → Bool)
  | 0 => (0, c, fun _ => false)
  | k + 1 =>
    if (eaF c k).1 ≠ 0 then eaF c k else
    if (eaF c k).2.1.bad k = true then eaF c k else
    if egE (eaF c k).2.1 k = 11 then (0, { egC (eaF c k).2.1 k with bad := up1 (egC (eaF c k).2.1 k).bad k true }, (eaF c k).2.2) else
    if egE (eaF c k).2.1 k = 0 then (0, egC (eaF c k).2.1 k, up1 (eaF c k).2.2 k true) else (egE (eaF c k).2.1 k, egC (eaF c k).2.1 k, (eaF c k).2.2)
theorem eaF_nb (c : Ch) (k : Nat) : (eaF c k).2.1.nb = c.nb := by
  induction k with
  | zero => rfl
  | succ k ih =>
    rw [eaF]
    split
    · exact ih
    · split
      · exact ih
      · split
        · exact (egC_same _ _).1.trans ih
        · split
          · exact (egC_same _ _).1.trans ih
          · exact (egC_same _ _).1.trans ih
theorem eaF_stop {c : Ch} {k : Nat} (h : (eaF c k).1 ≠ 0) : ∀ n, k ≤ n → eaF c n = eaF c k := by
  intro n
  induction n with
  | zero => intro hk; rw [show k = 0 by omega]
  | succ n ih =>
    intro hk
    by_cases e : k = n + 1
    · rw [e]
    · have := ih (by omega)
      rw [eaF, this, if_pos h]
/-- which blocks are fresh, as a row -/
def FrR (w : World) (g nb : Nat) (f : Nat → Bool) : Prop := ∃ cs, Blk w g 4 cs ∧ cs.size = nb ∧ ∀ j, j < nb → cs[j]? = some (.bool (f j))
theorem FrR.kp {F : Nat → Prop} {w w' : World} {g nb : Nat} {f : Nat → Bool} (h : FrR w g nb f) (hk : Kp F w w') (hg : ¬ F g) : FrR w' g nb f := h.imp fun _ h => ⟨h.1.kp hk hg, h.2⟩
theorem FrR.put {w : World} {g nb : Nat} {f : Nat → Bool} (h : FrR w g nb f) (k : Nat) (hk : k < nb) (t : Bool) : FrR (w.setCell ⟨g, k, none⟩ (.bool t)) g nb (up1 f k t) := by
  obtain ⟨cs, h1, h2, h3⟩ := h
  refine ⟨_, h1.put k (.bool t), by simpa using h2, fun j hj => ?_⟩
  unfold up1
  by_cases e : j = k
  · subst e
    rw [if_pos rfl]
    have : j < cs.size := by omega
    simp [this]
  · rw [if_neg e, Array.getElem?_setIfInBounds, if_neg (fun q => e q.symm)]
    exact h3 j hj
/-- what erasing all comes to -/
def EaP (w : World) (X : Nat → Prop) (o : Own) (nb : Nat) (R : Int × Ch × (Nat → Bool)) (e : Ending) (w' : World) : Prop :=
  ((R.1 = 0 ∧ ∃ g, e = .returned (.tuple #[.slice (some ⟨g, 0, none⟩) nb nb, .int .i64 0]) ∧ w.heap.size ≤ g ∧ FrR w' g nb R.2.2) ∨ (R.1 ≠ 0 ∧ e = .returned (.tuple #[.slice none 0 0, .int .i64 R.1]))) ∧ ChAt w' X o R.2.1 ∧ Kp (o.F nb) w w'

set_option maxRecDepth 100000 in
set_option maxHeartbeats 2000000 in
theorem eraseAll_any {w : World} {X : Nat → Prop} {o : Own} {c : Ch} (h : ChAt w X o c) :
    Calls Tryz.prog 27 #[.pointer (some ⟨o.bc, 0, none⟩)] w (EaP w X o c.nb (eaF c c.nb)) := by
  obtain ⟨i0, hi, hz0, hz1, hz2⟩ := info_parts Tryz.infoBoF
  have hnb : c.nb < 129 := h.good.2.1
  have hFx := h.inX
  have HG := Lib.hid (geo_any h)
  have HH := Lib.hid h
  have hop : o.p = .pointer (some ⟨o.bc, 0, none⟩) := rfl
  rw [hop] at HG
  have gf := gfield0
  obtain ⟨nb, hn⟩ : ∃ nb, c.nb = nb := ⟨_, rfl⟩
  rw [hn] at HG hnb hFx ⊢
  have HN := Lib.hid hn
  clear h hop hn
  go_enter Tryz.func27, Tryz.ntmps27
  go_wp2_with fail
  go_step3
  go_wp2_with fail
  refine HG.out.mono ?_
  rintro e w1 ⟨rfl, hb1⟩
  have HB1 := Lib.hid hb1
  clear hb1 HG
  go_wp2_with (at_make; refine wpList_make_blk _ rfl _ _ 54 rfl 4 i0 (.bool false) 1 Tryz.underlying54 hi hz0 hz1 .i64 .i64 _ _ nb rfl rfl rfl rfl (by rw [hz2]; omega) (by unfold maxLen; omega) ?_)
  intro w2 hBk hB2 hS2
  obtain ⟨g, hg⟩ : ∃ g, w1.heap.size = g := ⟨_, rfl⟩
  have hgw : w.heap.size ≤ g := by have := HB1.out.size; omega
  have hgX : ∀ b, X b → b < g := fun b hb => by have := HH.out.old b hb; omega
  have HC2 : Hid (ChAt w2 (fun b => X b ∨ b = g) o (eaF c 0).2.1) := Lib.hid ((HH.out.below HB1.out).widen hB2.out (fun b hb => hb.imp id (fun e => by omega)) (fun b hb => by
    rcases hb with hb | rfl
    · have := hgX b hb; have := hS2.out; omega
    · have := hS2.out; omega) (fun b hb => .inl hb))
  have HF2 : Hid (FrR w2 g nb (eaF c 0).2.2) := Lib.hid ⟨_, by rw [← hg]; exact hBk.out, size_madeCells _ _, fun j hj => made_get hj⟩
  have HK2 : Hid (Kp (o.F nb) w w2) := Lib.hid (Kp.of_below (HB1.out.trans (hB2.out.mono HB1.out.size)))
  rw [hg]
  have HFo : Hid (∀ b, o.F nb b → b ≠ g) := Lib.hid fun b hb e => by have := hgX b (hFx b hb); omega
  have HIn : Hid (∀ b, o.F nb b → X b) := Lib.hid hFx
  have HGw := Lib.hid hgw
  clear hBk hB2 hS2 hi hz0 hz1 hz2 hg hgw hgX hFx HB1 HH
  go_wp2_with fail
  go_step3
  go_wp2_with fail
  go_loopw [13] (fun i wr => ∃ k : Nat, k ≤ nb ∧ i = .int .i64 k ∧ Hid ((eaF c k).1 = 0) ∧ Hid (ChAt wr (fun b => X b ∨ b = g) o (eaF c k).2.1) ∧ Hid (FrR wr g nb (eaF c k).2.2) ∧ Hid (Kp (o.F nb) w wr)) (fun i _ => nb - (intOf i).toNat)
  case atStart => exact ⟨0, by omega, rfl, Lib.hid rfl, HC2, HF2, HK2⟩
  case round =>
    obtain ⟨k, hk, rfl, hE, hC, hF, hK⟩ := hrel
    clear HC2 HF2 HK2
    by_cases hlt : k < nb
    · have kl : (k : Int) < (nb : Int) := by omega
      have hnk : (eaF c k).2.1.nb = nb := (eaF_nb c k).trans HN.out
      have HS : Hid (eaF c (k + 1) = if (eaF c k).2.1.bad k = true then eaF c k else
        if egE (eaF c k).2.1 k = 11 then (0, { egC (eaF c k).2.1 k with bad := up1 (egC (eaF c k).2.1 k).bad k true }, (eaF c k).2.2) else
        if egE (eaF c k).2.1 k = 0 then (0, egC (eaF c k).2.1 k, up1 (eaF c k).2.2 k true) else (egE (eaF c k).2.1 k, egC (eaF c k).2.1 k, (eaF c k).2.2)) := Lib.hid (by rw [eaF, if_neg (fun q => q hE.out)])
      have HBd := Lib.hid (bad_any hC.out k (by rw [hnk]; exact hlt))
      have HEr := Lib.hid (cerase_any hC.out (k : Int))
      have HMk := Lib.hid (fun W (d : Ch) (hd : ChAt W (fun b => X b ∨ b = g) o d) (hr : reE d k = 0) => mark_yes hd k hr)
      have hop : o.p = .pointer (some ⟨o.bc, 0, none⟩) := rfl
      rw [hop] at HBd HEr HMk
      rw [hnk] at HEr
      clear hop
      obtain ⟨R, hR⟩ : ∃ R, eaF c k = R := ⟨_, rfl⟩
      rw [hR] at hE hC hF HS HBd HEr hnk
      obtain ⟨e9, d, f⟩ := R
      dsimp only at hE hC hF HS HBd HEr hnk
      clear hR
      go_wp2_with fail
      refine HBd.out.mono ?_
      rintro e w' ⟨rfl, rfl⟩
      cases hbd : d.bad k
      case true =>
        rw [hbd, if_pos rfl] at HS
        have HE2 : Hid ((eaF c (k + 1)).1 = 0) := Lib.hid (by rw [HS.out]; exact hE.out)
        have HC2 : Hid (ChAt wr (fun b => X b ∨ b = g) o (eaF c (k + 1)).2.1) := Lib.hid (by rw [HS.out]; exact hC.out)
        have HF2 : Hid (FrR wr g nb (eaF c (k + 1)).2.2) := Lib.hid (by rw [HS.out]; exact hF.out)
        clear hE hC hF HS HBd HEr HMk
        go_wp2
        go_roundw
        case rel => exact ⟨k + 1, by omega, by go_num, HE2, HC2, HF2, hK⟩
        case measure => simp [intOf]; omega
      case false =>
        rw [hbd, if_neg (by decide)] at HS
        clear HBd hbd
        go_wp2_with fail
        refine HEr.out.mono ?_
        rintro e w3 ⟨rfl, hc3, hk3⟩
        have hE11 : egE d k = 11 → reE (egC d k) k = 0 := fun q => egE_fail q
        have HK3 := Lib.hid (hK.out.trans hk3)
        have HF3 := Lib.hid (hF.out.kp hk3 (fun q => HFo.out g q rfl))
        have HC3 := Lib.hid hc3
        have hn3 : (egC d k).nb = nb := (egC_same d k).1.trans hnk
        clear hc3 hk3 hC hF hK HEr
        generalize hE3 : egE d k = E at hE11 HS ⊢
        generalize egC d k = d3 at hE11 HS HC3 hn3
        by_cases e1 : E = 11
        · subst e1
          rw [if_pos rfl] at HS
          have HM := Lib.hid (HMk.out _ d3 HC3.out (hE11 rfl))
          clear hE11 HMk HC3 hE3
          go_wp2_with fail
          refine HM.out.mono ?_
          rintro e w4 ⟨rfl, hc4, hk4⟩
          rw [hn3] at hk4
          have HE2 : Hid ((eaF c (k + 1)).1 = 0) := Lib.hid (by rw [HS.out])
          have HC2 : Hid (ChAt w4 (fun b => X b ∨ b = g) o (eaF c (k + 1)).2.1) := Lib.hid (by rw [HS.out]; exact hc4)
          have HF2 : Hid (FrR w4 g nb (eaF c (k + 1)).2.2) := Lib.hid (by rw [HS.out]; exact HF3.out.kp hk4 (fun q => HFo.out g q rfl))
          have HK4 := Lib.hid (HK3.out.trans hk4)
          clear hc4 hk4 HS HM HF3 HK3 hE
          go_wp2
          go_roundw
          case rel => exact ⟨k + 1, by omega, by go_num, HE2, HC2, HF2, HK4⟩
          case measure => simp [intOf]; omega
        · have t1 : (E == 11) = false := beq_eq_false_iff_ne.2 e1
          rw [if_neg e1] at HS
          clear HMk hE11
          by_cases e0 : E = 0
          · subst e0
            rw [if_pos rfl] at HS
            obtain ⟨cs, hcs1, hcs2, hcs3⟩ := HF3.out
            have fz := hcs1.frozen k
            have ck : w3.cell? ⟨g, k, none⟩ = some (.bool (f k)) := (hcs1.cell k).trans (hcs3 k hlt)
            have HE2 : Hid ((eaF c (k + 1)).1 = 0) := Lib.hid (by rw [HS.out])
            have HC2 : Hid (ChAt (w3.setCell ⟨g, k, none⟩ (.bool true)) (fun b => X b ∨ b = g) o (eaF c (k + 1)).2.1) := Lib.hid (by
              rw [HS.out]
              exact HC3.out.kp (Kp.one w3 ⟨g, k, none⟩ (.bool true)) (fun b e => .inr e) (fun b hb e => HFo.out b (by rw [hn3] at hb; exact hb) e))
            have HF2 : Hid (FrR (w3.setCell ⟨g, k, none⟩ (.bool true)) g nb (eaF c (k + 1)).2.2) := Lib.hid (by rw [HS.out]; exact HF3.out.put k hlt true)
            have HK4 : Hid (Kp (o.F nb) w (w3.setCell ⟨g, k, none⟩ (.bool true))) := Lib.hid (HK3.out.setCell (p := ⟨g, k, none⟩) (.inr HGw.out) _)
            clear hcs1 hcs3 HS HF3 HK3 HC3 hE hE3
            go_wp2
            go_roundw
            case rel => exact ⟨k + 1, by omega, by go_num, HE2, HC2, HF2, HK4⟩
            case measure => simp [intOf]; omega
          · have t0 : (E != 0) = true := bne_iff_ne.2 e0
            rw [if_neg e0] at HS
            have HEnd : Hid (EaP w X o nb (eaF c nb) (.returned (.tuple #[.slice none 0 0, .int .i64 E])) w3) := Lib.hid (by
              have hst : eaF c nb = eaF c (k + 1) := eaF_stop (by rw [HS.out]; exact e0) nb (by omega)
              rw [hst, HS.out]
              exact ⟨.inr ⟨e0, rfl⟩, HC3.out.narrow (fun b hb => .inl hb) (fun b hb => HIn.out b (by rw [hn3] at hb; exact hb)), HK3.out⟩)
            clear HS HF3 HK3 HC3 hE e0 hE3
            go_wp2
            rw [Exit.noGoto_ret]
            go_ret2
            exact HEnd.out
    · have kl : ¬ (k : Int) < (nb : Int) := by omega
      obtain rfl : k = nb := by omega
      have HEnd : Hid (EaP w X o k (eaF c k) (.returned (.tuple #[.slice (some ⟨g, 0, none⟩) k k, .int .i64 0])) wr) := Lib.hid ⟨.inl ⟨hE.out, g, rfl, HGw.out, hF.out⟩, hC.out.narrow (fun b hb => .inl hb) (fun b hb => HIn.out b (by have h9 := eaF_nb c k; rw [h9, HN.out] at hb; exact hb)), hK.out⟩
      clear hE hC hF hK
      go_wp2
      go_ret2
      exact HEnd.out
end Go.Proofs.YtbfifppdcmimaaaGreat
