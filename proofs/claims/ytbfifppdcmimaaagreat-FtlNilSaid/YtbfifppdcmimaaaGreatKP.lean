/-
  A block erased by a manager, whatever comes of it. Nothing of one statement alone stands here.
-/
import Derived.Test.YtbfifppdcmimaaaGreatKN
namespace Go.Proofs.YtbfifppdcmimaaaGreat
open Go.RowKit Crcm Gcm Go.ChangeShapes

/-- what an erasing of the chip answers, and the chip behind it -/
def egE (c : Ch) (k : Int) : Int := if erE c k = 0 then endE (fnd c.fl c.since).kind else erE c k
def egC (c : Ch) (k : Int) : Ch := if erE c k = 0 then erD c k.toNat else c
theorem erD_same (c : Ch) (k : Nat) : (erD c k).nb = c.nb ∧ (erD c k).np = c.np := by
  unfold erD endC
  split <;> (split <;> first | exact ⟨rfl, rfl⟩ | (split <;> exact ⟨rfl, rfl⟩))
theorem egC_same (c : Ch) (k : Int) : (egC c k).nb = c.nb ∧ (egC c k).np = c.np := by
  unfold egC
  split
  · exact erD_same c _
  · exact ⟨rfl, rfl⟩
theorem cerase_any {w : World} {X : Nat → Prop} {o : Own} {c : Ch} (h : ChAt w X o c) (k : Int) :
    Calls Tryz.prog 57 #[o.p, .int .i64 k] w fun e w' => e = .returned (.int .i64 (egE c k)) ∧ ChAt w' X o (egC c k) ∧ Kp (o.F c.nb) w w' := by
  unfold egE egC
  by_cases g : erE c k = 0
  · rw [if_pos g, if_pos g]
    have h0 : reE c k = 0 := by
      unfold erE at g
      split at g
      · assumption
      · exact g
    obtain ⟨-, g6, g7⟩ := reE_zero h0
    obtain ⟨n, rfl⟩ : ∃ n : Nat, k = n := ⟨k.toNat, by omega⟩
    rw [Int.toNat_natCast]
    exact erase_yes h n g
  · rw [if_neg g, if_neg g]
    refine (erase_no h k g).mono ?_
    rintro e w' ⟨rfl, rfl⟩
    exact ⟨rfl, h, Kp.refl _ _⟩
/-- an erasing that fails leaves the chip up -/
theorem egE_fail {c : Ch} {k : Nat} (h : egE c k = 11) : reE (egC c k) k = 0 := by
  unfold egE at h
  by_cases g : erE c k = 0
  · rw [if_pos g] at h
    have h0 : reE c k = 0 := by
      unfold erE at g
      split at g
      · assumption
      · exact g
    obtain ⟨s1, s2, s3⟩ := reE_zero h0
    have hk : (fnd c.fl c.since).kind = 3 := by
      unfold endE at h
      split at h
      · cases h
      · split at h
        · assumption
        · cases h
    refine reE_yes ?_ (by rw [(egC_same c k).1]; omega)
    unfold egC erD
    rw [if_pos g, hk]
    exact s1
  · rw [if_neg g] at h
    unfold erE at h
    split at h
    · split at h <;> cases h
    · unfold reE at h
      split at h
      · split at h <;> cases h
      · cases h
/-- what an erasing by a manager comes to -/
def eraT (k : Int) (l : List Bk) (c : Ch) : Int × List Bk × Ch :=
  if ndE c.up l k = 0 then
    (if l[k.toNat]!.st = 1 ∧ 0 < l[k.toNat]!.nx then (1, l, c) else
      if egE c k = 0 then (0, l.set k.toNat ⟨0, 0, 0, 0⟩, egC c k) else
      if egE c k = 11 then (11, l.set k.toNat ⟨4, 0, 0, 0⟩, { egC c k with bad := up1 (egC c k).bad k.toNat true }) else (egE c k, l, egC c k))
  else (ndE c.up l k, l, c)
/-- the contract of a call that turns manager and chip, and tells an error -/
def ErP (w : World) (X : Nat → Prop) (M : Nat) (m : Mg) (o : Own) (c : Ch) (R : Int × List Bk × Ch) (e : Ending) (w' : World) : Prop :=
  e = .returned (.int .i64 R.1) ∧ MgAt w' M { m with l := R.2.1 } ∧ ChAt w' X o R.2.2 ∧ Kp (Fm o c.nb m.g) w w'

set_option maxRecDepth 100000 in
set_option maxHeartbeats 4000000 in
theorem bera_any {w : World} {X : Nat → Prop} {M : Nat} {m : Mg} {o : Own} {c : Ch} (h : MgAt w M m) (hc : ChAt w X o c) (hp : m.cp = o.p) (hXg : X m.g) (hoM : ¬ o.F c.nb M) (hog : ¬ o.F c.nb m.g) (k : Int) :
    Calls Tryz.prog 150 #[.pointer (some ⟨M, 0, none⟩), .int .i64 k] w (ErP w X M m o c (eraT k m.l c)) := by
  have HNd := Lib.hid (needless_any h hc hp k)
  by_cases hd : ndE c.up m.l k = 0
  case neg =>
    have t0 : (ndE c.up m.l k != 0) = true := by simpa using hd
    have HR : Hid (ErP w X M m o c (eraT k m.l c) (.returned (.int .i64 (ndE c.up m.l k))) w) := Lib.hid (by
      unfold eraT
      rw [if_neg hd]
      exact ⟨rfl, h, hc, Kp.refl _ _⟩)
    unfold ndP at HNd
    rw [if_neg hd] at HNd
    obtain ⟨R, hR⟩ : ∃ R, eraT k m.l c = R := ⟨_, rfl⟩
    rw [hR] at HR ⊢
    generalize ndE c.up m.l k = z at HNd HR t0
    clear h hc hp hXg hoM hog hd hR
    go_enter Tryz.func150, Tryz.ntmps150
    go_wp2_with fail
    refine HNd.out.mono ?_
    rintro r w' ⟨rfl, rfl⟩
    go_wp2
    go_ret
    exact HR.out
  have hk : (0 : Int) ≤ k ∧ k < m.l.length := by
    unfold ndE at hd
    split at hd
    · split at hd
      · cases hd
      · rename_i g
        constructor
        · have := fun x => g (.inl x); omega
        · have := fun x => g (.inr (.inl x)); omega
    · cases hd
  obtain ⟨q, rfl⟩ : ∃ q : Nat, k = q := ⟨k.toNat, by omega⟩
  have hq : q < m.l.length := by omega
  rw [hd] at HNd
  unfold ndP at HNd
  rw [if_pos rfl, Int.toNat_natCast] at HNd
  obtain ⟨e0, -, -, e3⟩ := h.own.at q hq
  obtain ⟨y, hy⟩ : ∃ y, m.l[q]! = y := ⟨_, rfl⟩
  rw [hy] at e0 e3
  by_cases hst : y.st = 1 ∧ 0 < y.nx
  case pos =>
    have HR : Hid (ErP w X M m o c (eraT q m.l c) (.returned (.int .i64 1)) w) := Lib.hid (by
      unfold eraT
      rw [if_pos hd, Int.toNat_natCast, hy, if_pos hst]
      exact ⟨rfl, h, hc, Kp.refl _ _⟩)
    obtain ⟨g1, g2⟩ := hst
    rw [g1] at e0
    have t1 : decide (0 < y.nx) = true := decide_eq_true g2
    obtain ⟨R, hR⟩ : ∃ R, eraT (q : Int) m.l c = R := ⟨_, rfl⟩
    rw [hR] at HR ⊢
    clear h hc hp hXg hoM hog hd hR hk hq hy g1 g2
    go_enter Tryz.func150, Tryz.ntmps150
    go_wp2_with fail
    refine HNd.out.mono ?_
    rintro r w' ⟨rfl, rfl⟩
    go_wp2
    go_ret
    exact HR.out
  obtain ⟨c0, -, -, -, -⟩ := h.cells
  rw [hp] at c0
  obtain ⟨E, hE⟩ : ∃ E, egE c q = E := ⟨_, rfl⟩
  have hFl : eraT q m.l c = if E = 0 then (0, m.l.set q ⟨0, 0, 0, 0⟩, egC c q) else if E = 11 then (11, m.l.set q ⟨4, 0, 0, 0⟩, { egC c q with bad := up1 (egC c q).bad q true }) else (E, m.l, egC c q) := by
    unfold eraT
    rw [if_pos hd, Int.toNat_natCast, hy, if_neg hst, hE]
  have hCe := cerase_any hc q
  rw [hE] at hCe
  have HFa := Lib.hid (fun h : E = 11 => egE_fail (c := c) (k := q) (by rw [hE]; exact h))
  unfold Own.p at c0 hCe
  have HCe := Lib.hid hCe
  have HH := Lib.hid h
  have HP := Lib.hid hp
  have HXg := Lib.hid hXg
  have HoM := Lib.hid hoM
  have Hog := Lib.hid hog
  have HQ := Lib.hid hq
  obtain ⟨R, hR⟩ : ∃ R, eraT (q : Int) m.l c = R := ⟨_, rfl⟩
  rw [hR] at hFl ⊢
  have HFl := Lib.hid hFl
  clear h hc hp hXg hoM hog hd hR hk hq hy hCe hFl hE
  obtain ⟨st, lv, wr', nx'⟩ := y
  dsimp only at e0 e3 hst
  by_cases g1 : st = 1
  · have t0 : (st == 1) = true := by simpa using g1
    have t1 : decide (0 < nx') = false := decide_eq_false (fun g => hst ⟨g1, g⟩)
    clear g1 hst
    go_enter Tryz.func150, Tryz.ntmps150
    go_wp2_with fail
    refine HNd.out.mono ?_
    rintro r w' ⟨rfl, rfl⟩
    go_wp2_with fail
    refine HCe.out.mono ?_
    rintro r w1 ⟨rfl, hc1, hk1⟩
    have M1 := HH.out.kp hk1 HoM.out Hog.out
    have K1 := Lib.hid (hk1.mono (fun b hb => show Fm o c.nb m.g b from .inl hb))
    have og1 : ¬ o.F (egC c q).nb m.g := by rw [(egC_same c q).1]; exact Hog.out
    have om1 : ¬ o.F (egC c q).nb M := by rw [(egC_same c q).1]; exact HoM.out
    clear hk1 c0 e0 e3
    by_cases e0 : E = 0
    · rw [if_pos e0] at HFl
      subst e0
      obtain ⟨x0, x1, x2, x3⟩ := M1.own.at q HQ.out
      have f0 := M1.own.frozen (q * 4)
      have f1 := M1.own.frozen (q * 4 + 1)
      have f2 := M1.own.frozen (q * 4 + 2)
      have f3 := M1.own.frozen (q * 4 + 3)
      have P := Lib.hid (M1.put4 q HQ.out ⟨0, 0, 0, 0⟩ (by unfold Bw I64; simp))
      have K := Lib.hid (((((Kp.refl (fun b => b = m.g) w1).setCell (p := ⟨m.g, q * 4, none⟩) (.inl rfl) (.int .i64 0)).setCell (p := ⟨m.g, q * 4 + 1, none⟩) (.inl rfl) (.int .i64 0)).setCell (p := ⟨m.g, q * 4 + 2, none⟩) (.inl rfl) (.int .i64 0)).setCell (p := ⟨m.g, q * 4 + 3, none⟩) (.inl rfl) (.int .i64 0))
      have C2 := Lib.hid (hc1.kp K.out (fun b hb => by rw [hb]; exact HXg.out) (fun b hb e => og1 (by rw [← e]; exact hb)))
      have K2 := Lib.hid (K1.out.trans (K.out.mono (fun b hb => show Fm o c.nb m.g b from .inr hb)))
      have HE : Hid (ErP w X M m o c R (.returned (.int .i64 0)) (ov4 w1 m.g (q * 4) ⟨0, 0, 0, 0⟩)) := Lib.hid (by
        rw [HFl.out]
        exact ⟨rfl, P.out, C2.out, K2.out⟩)
      clear M1 hc1 og1 om1 HFl P K C2 K2
      generalize m.l[q]!.st = y0 at x0
      generalize m.l[q]!.lv = y1 at x1
      generalize m.l[q]!.wr = y2 at x2
      generalize m.l[q]!.nx = y3 at x3
      go_wp2
      go_ret
      exact HE.out
    rw [if_neg e0] at HFl
    have v0 : (E == 0) = false := beq_eq_false_iff_ne.2 e0
    by_cases e1 : E = 11
    · rw [if_pos e1] at HFl
      have hMk := Lib.hid (bmark_any M1 hc1 HP.out HXg.out om1 og1 q HQ.out (HFa.out e1))
      subst e1
      clear M1 hc1 og1 om1
      go_wp2_with fail
      refine hMk.out.mono ?_
      rintro r w2 ⟨rfl, hm2, hc2, hk2⟩
      have HE : Hid (ErP w X M m o c R (.returned (.int .i64 11)) w2) := Lib.hid (by
        rw [HFl.out]
        rw [(egC_same c q).1] at hk2
        exact ⟨rfl, hm2, hc2, K1.out.trans hk2⟩)
      clear hm2 hc2 hk2 HFl
      go_wp2
      go_ret
      exact HE.out
    rw [if_neg e1] at HFl
    have v1 : (E == 11) = false := beq_eq_false_iff_ne.2 e1
    have HE : Hid (ErP w X M m o c R (.returned (.int .i64 E)) w1) := Lib.hid (by
      rw [HFl.out]
      exact ⟨rfl, M1, hc1, K1.out⟩)
    clear M1 hc1 og1 om1 HFl
    go_wp2
    go_ret
    exact HE.out
  have t0 : (st == 1) = false := by simpa using g1
  clear g1 hst
  go_enter Tryz.func150, Tryz.ntmps150
  go_wp2_with fail
  refine HNd.out.mono ?_
  rintro r w' ⟨rfl, rfl⟩
  go_wp2_with fail
  refine HCe.out.mono ?_
  rintro r w1 ⟨rfl, hc1, hk1⟩
  have M1 := HH.out.kp hk1 HoM.out Hog.out
  have K1 := Lib.hid (hk1.mono (fun b hb => show Fm o c.nb m.g b from .inl hb))
  have og1 : ¬ o.F (egC c q).nb m.g := by rw [(egC_same c q).1]; exact Hog.out
  have om1 : ¬ o.F (egC c q).nb M := by rw [(egC_same c q).1]; exact HoM.out
  clear hk1 c0 e0 e3
  by_cases e0 : E = 0
  · rw [if_pos e0] at HFl
    subst e0
    obtain ⟨x0, x1, x2, x3⟩ := M1.own.at q HQ.out
    have f0 := M1.own.frozen (q * 4)
    have f1 := M1.own.frozen (q * 4 + 1)
    have f2 := M1.own.frozen (q * 4 + 2)
    have f3 := M1.own.frozen (q * 4 + 3)
    have P := Lib.hid (M1.put4 q HQ.out ⟨0, 0, 0, 0⟩ (by unfold Bw I64; simp))
    have K := Lib.hid (((((Kp.refl (fun b => b = m.g) w1).setCell (p := ⟨m.g, q * 4, none⟩) (.inl rfl) (.int .i64 0)).setCell (p := ⟨m.g, q * 4 + 1, none⟩) (.inl rfl) (.int .i64 0)).setCell (p := ⟨m.g, q * 4 + 2, none⟩) (.inl rfl) (.int .i64 0)).setCell (p := ⟨m.g, q * 4 + 3, none⟩) (.inl rfl) (.int .i64 0))
    have C2 := Lib.hid (hc1.kp K.out (fun b hb => by rw [hb]; exact HXg.out) (fun b hb e => og1 (by rw [← e]; exact hb)))
    have K2 := Lib.hid (K1.out.trans (K.out.mono (fun b hb => show Fm o c.nb m.g b from .inr hb)))
    have HE : Hid (ErP w X M m o c R (.returned (.int .i64 0)) (ov4 w1 m.g (q * 4) ⟨0, 0, 0, 0⟩)) := Lib.hid (by
      rw [HFl.out]
      exact ⟨rfl, P.out, C2.out, K2.out⟩)
    clear M1 hc1 og1 om1 HFl P K C2 K2
    generalize m.l[q]!.st = y0 at x0
    generalize m.l[q]!.lv = y1 at x1
    generalize m.l[q]!.wr = y2 at x2
    generalize m.l[q]!.nx = y3 at x3
    go_wp2
    go_ret
    exact HE.out
  rw [if_neg e0] at HFl
  have v0 : (E == 0) = false := beq_eq_false_iff_ne.2 e0
  by_cases e1 : E = 11
  · rw [if_pos e1] at HFl
    have hMk := Lib.hid (bmark_any M1 hc1 HP.out HXg.out om1 og1 q HQ.out (HFa.out e1))
    subst e1
    clear M1 hc1 og1 om1
    go_wp2_with fail
    refine hMk.out.mono ?_
    rintro r w2 ⟨rfl, hm2, hc2, hk2⟩
    have HE : Hid (ErP w X M m o c R (.returned (.int .i64 11)) w2) := Lib.hid (by
      rw [HFl.out]
      rw [(egC_same c q).1] at hk2
      exact ⟨rfl, hm2, hc2, K1.out.trans hk2⟩)
    clear hm2 hc2 hk2 HFl
    go_wp2
    go_ret
    exact HE.out
  rw [if_neg e1] at HFl
  have v1 : (E == 11) = false := beq_eq_false_iff_ne.2 e1
  have HE : Hid (ErP w X M m o c R (.returned (.int .i64 E)) w1) := Lib.hid (by
    rw [HFl.out]
    exact ⟨rfl, M1, hc1, K1.out⟩)
  clear M1 hc1 og1 om1 HFl
  go_wp2
  go_ret
  exact HE.out

end Go.Proofs.YtbfifppdcmimaaaGreat

/-
  A block retired by a manager. Nothing of one statement alone stands here.
-/
namespace Go.Proofs.YtbfifppdcmimaaaGreat
open Go.RowKit Crcm Gcm Go.ChangeShapes

/-- what a retiring comes to -/
def retT (k : Int) (l : List Bk) (c : Ch) : Int × List Bk × Ch :=
  if ndE c.up l k = 0 then (0, l.set k.toNat ⟨4, 0, 0, 0⟩, { c with bad := up1 c.bad k.toNat true }) else (ndE c.up l k, l, c)

set_option maxRecDepth 100000 in
set_option maxHeartbeats 1000000 in
theorem bret_any {w : World} {X : Nat → Prop} {M : Nat} {m : Mg} {o : Own} {c : Ch} (h : MgAt w M m) (hc : ChAt w X o c) (hp : m.cp = o.p) (hn : m.l.length = c.nb) (hXg : X m.g) (hoM : ¬ o.F c.nb M) (hog : ¬ o.F c.nb m.g) (k : Int) :
    Calls Tryz.prog 123 #[.pointer (some ⟨M, 0, none⟩), .int .i64 k] w (ErP w X M m o c (retT k m.l c)) := by
  have HNd := Lib.hid (needless_any h hc hp k)
  by_cases hd : ndE c.up m.l k = 0
  case neg =>
    have t0 : (ndE c.up m.l k == 0) = false := by simpa using hd
    have HR : Hid (ErP w X M m o c (retT k m.l c) (.returned (.int .i64 (ndE c.up m.l k))) w) := Lib.hid (by
      unfold retT
      rw [if_neg hd]
      exact ⟨rfl, h, hc, Kp.refl _ _⟩)
    unfold ndP at HNd
    rw [if_neg hd] at HNd
    obtain ⟨R, hR⟩ : ∃ R, retT k m.l c = R := ⟨_, rfl⟩
    rw [hR] at HR ⊢
    generalize ndE c.up m.l k = z at HNd HR t0
    clear h hc hp hXg hoM hog hd hR hn
    go_enter Tryz.func123, Tryz.ntmps123
    go_wp2_with fail
    refine HNd.out.mono ?_
    rintro r w' ⟨rfl, rfl⟩
    go_wp2
    go_ret
    exact HR.out
  have hk : c.up = true ∧ (0 : Int) ≤ k ∧ k < m.l.length := by
    unfold ndE at hd
    split at hd
    · rename_i hup
      split at hd
      · cases hd
      · rename_i g
        refine ⟨hup, ?_, ?_⟩
        · have := fun x => g (.inl x); omega
        · have := fun x => g (.inr (.inl x)); omega
    · cases hd
  obtain ⟨hup, hk0, hk1⟩ := hk
  obtain ⟨q, rfl⟩ : ∃ q : Nat, k = q := ⟨k.toNat, by omega⟩
  have hq : q < m.l.length := by omega
  rw [hd] at HNd
  have HMk := Lib.hid (bmark_any h hc hp hXg hoM hog q hq (reE_yes hup (by omega)))
  have HF : Hid (retT q m.l c = (0, m.l.set q ⟨4, 0, 0, 0⟩, { c with bad := up1 c.bad q true })) := Lib.hid (by
    unfold retT
    rw [if_pos hd, Int.toNat_natCast])
  obtain ⟨R, hR⟩ : ∃ R, retT (q : Int) m.l c = R := ⟨_, rfl⟩
  rw [hR] at HF ⊢
  unfold ndP at HNd
  clear h hc hp hXg hoM hog hd hR hn hup hk0 hk1 hq
  go_enter Tryz.func123, Tryz.ntmps123
  go_wp2_with fail
  refine HNd.out.mono ?_
  rintro r w' ⟨rfl, rfl⟩
  go_wp2_with fail
  refine HMk.out.mono ?_
  rintro r w2 ⟨rfl, hm, hc2, hk2⟩
  have HE : Hid (ErP w X M m o c R (.returned (.int .i64 0)) w2) := Lib.hid (by
    rw [HF.out]
    exact ⟨rfl, hm, hc2, hk2⟩)
  clear hm hc2 hk2
  go_wp2
  go_ret
  exact HE.out
end Go.Proofs.YtbfifppdcmimaaaGreat
