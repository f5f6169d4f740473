/-
  What a manager's calls keep of a chip's pages. Nothing of one statement alone stands here.
-/
import Derived.Test.YtjjggmopkfkpaaaGreatKG
import Derived.Test.YtjjggmopkfkpaaaGreatKO
import Derived.Test.YtjjggmopkfkpaaaGreatKP
namespace Go.Proofs.YtjjggmopkfkpaaaGreat
open Go.RowKit Crcm Gcm Go.ChangeShapes

theorem pgC_kd (c : Ch) (k p : Int) (l : List Int) (P : Nat → Prop) : Kd c (pgC c k p l) P := by
  unfold pgC
  split
  · rename_i he
    obtain ⟨h1, -, -, -, h5⟩ := prE_zero he
    obtain ⟨-, r2, r3⟩ := rpE_zero h1
    exact prC_kd l (nx_none (c.pg k.toNat) c.np p.toNat (by omega) (by omega)) P
  · exact Kd.refl _ _
theorem prgF_kd (b : List Int) (P : Nat → Prop) : ∀ (j : Nat) (l : List Bk) (c : Ch), Kd c (prgF b j l c).2.2 P := by
  intro j
  induction j with
  | zero => intro l c; exact Kd.refl _ _
  | succ j ih =>
    intro l c
    rw [prgF]
    split
    · exact Kd.refl _ _
    · split
      · exact pgC_kd _ _ _ _ _
      · split
        · exact pgC_kd _ _ _ _ _
        · split
          · exact (pgC_kd _ _ _ _ _).trans (ih _ _)
          · exact pgC_kd _ _ _ _ _
theorem prgT_kd (b : List Int) (l : List Bk) (c : Ch) (P : Nat → Prop) : Kd c (prgT b l c).2.2 P := by
  unfold prgT
  split
  · split
    · exact prgF_kd _ _ _ _ _
    · exact Kd.refl _ _
  · exact Kd.refl _ _
theorem egC_kd (c : Ch) (k : Int) : Kd c (egC c k) (fun j => j = k.toNat) := by
  unfold egC
  split
  · exact erD_kd _ _
  · exact Kd.refl _ _
theorem eraT_kd (k : Int) (l : List Bk) (c : Ch) : Kd c (eraT k l c).2.2 (fun j => j = k.toNat) := by
  unfold eraT
  split
  · split
    · exact Kd.refl _ _
    · split
      · exact egC_kd _ _
      · split
        · exact (egC_kd c k).trans (Kd.same rfl rfl rfl rfl _)
        · exact egC_kd _ _
  · exact Kd.refl _ _
theorem retT_kd (k : Int) (l : List Bk) (c : Ch) (P : Nat → Prop) : Kd c (retT k l c).2.2 P := by
  unfold retT
  split
  · exact Kd.same rfl rfl rfl rfl _
  · exact Kd.refl _ _
end Go.Proofs.YtjjggmopkfkpaaaGreat

/-
  A page that a manager says was programmed stands at its place. Nothing of one statement alone stands here.
-/
namespace Go.Proofs.YtjjggmopkfkpaaaGreat
open Go.RowKit Crcm Gcm Go.ChangeShapes

theorem pgC_put {c : Ch} {k p : Int} {b : List Int} (h : pgE c k p b.length = 0) : (0 ≤ k ∧ k < c.nb) ∧ (0 ≤ p ∧ p < c.np) ∧ (pgC c k p b).pg k.toNat p.toNat = some b := by
  unfold pgE at h
  split at h
  · rename_i he
    obtain ⟨h1, -, -, -, h5⟩ := prE_zero he
    obtain ⟨r1, r2, r3⟩ := rpE_zero h1
    obtain ⟨-, s2, s3⟩ := reE_zero r1
    refine ⟨⟨s2, s3⟩, ⟨r2, r3⟩, ?_⟩
    unfold pgC
    rw [if_pos he]
    unfold endE at h
    have hk : ¬ ((fnd c.fl c.since).kind = 1 ∨ (fnd c.fl c.since).kind = 2) ∧ ¬ (fnd c.fl c.since).kind = 3 := by
      split at h
      · cases h
      · split at h
        · cases h
        · exact ⟨by assumption, by assumption⟩
    obtain ⟨k1, k3⟩ := hk
    unfold prC endC
    rw [if_neg k1, if_neg (fun q => k1 (.inl q)), if_neg (fun q => by rcases q with q | q; exact k1 (.inr q); exact k3 q)]
    show up2 c.pg k.toNat p.toNat (some b) k.toNat p.toNat = some b
    unfold up2
    rw [up1_at, up1_at]
  · exact absurd h (by assumption)
theorem prgF_put (b : List Int) : ∀ (j : Nat) (l : List Bk) (c : Ch), fo l < j → (prgF b j l c).1.2.2 = 0 →
    (0 ≤ (prgF b j l c).1.1 ∧ (prgF b j l c).1.1 < c.nb) ∧ (0 ≤ (prgF b j l c).1.2.1 ∧ (prgF b j l c).1.2.1 < c.np) ∧ (prgF b j l c).2.2.pg (prgF b j l c).1.1.toNat (prgF b j l c).1.2.1.toNat = some b := by
  intro j
  induction j with
  | zero => intro l c h; omega
  | succ j ih =>
    intro l c hf h
    by_cases hneg : (obI c.wear l).1 < 0
    · rw [prgF_full hneg] at h
      exact absurd h (show ¬ (40 : Int) = 0 by decide)
    obtain ⟨k, l1, hkl⟩ : ∃ (k : Nat) (l1 : List Bk), obI c.wear l = ((k : Int), l1) := ⟨(obI c.wear l).1.toNat, (obI c.wear l).2, by
      apply Prod.ext
      · dsimp only; omega
      · rfl⟩
    obtain ⟨g1, g2, g3, g4⟩ := obI_fo _ _ hkl
    obtain ⟨E, hE⟩ : ∃ E, pgE c k l1[k]!.nx b.length = E := ⟨_, rfl⟩
    rw [prgF_ok hkl rfl rfl hE] at h ⊢
    by_cases e0 : E = 0
    · rw [if_pos e0]
      subst e0
      obtain ⟨a1, a2, a3⟩ := pgC_put hE
      exact ⟨a1, a2, a3⟩
    rw [if_neg e0] at h ⊢
    by_cases e1 : E = 11
    · rw [if_pos e1] at h
      exact absurd h (show ¬ (11 : Int) = 0 by decide)
    rw [if_neg e1] at h ⊢
    by_cases e2 : E = 10
    · rw [if_pos e2] at h ⊢
      have hc := fo_close (show k < l1.length by rw [g2]; exact g1) g4
      have := ih (l1.set k (clsB l1[k]!)) (pgC c k l1[k]!.nx b) (by omega) h
      rw [(pgC_same c k l1[k]!.nx b).1, (pgC_same c k l1[k]!.nx b).2] at this
      exact this
    · rw [if_neg e2] at h
      exact absurd h e0
theorem prgT_put {b : List Int} {l : List Bk} {c : Ch} (h : (prgT b l c).1.2.2 = 0) :
    (0 ≤ (prgT b l c).1.1 ∧ (prgT b l c).1.1 < c.nb) ∧ (0 ≤ (prgT b l c).1.2.1 ∧ (prgT b l c).1.2.1 < c.np) ∧ (prgT b l c).2.2.pg (prgT b l c).1.1.toNat (prgT b l c).1.2.1.toNat = some b := by
  unfold prgT at h ⊢
  by_cases hu : c.up = true
  · rw [if_pos hu] at h ⊢
    by_cases hl : b.length = c.sz + 32
    · rw [if_pos hl] at h ⊢
      exact prgF_put b _ l c (Nat.lt_succ_of_le (fo_le l)) h
    · rw [if_neg hl] at h
      exact absurd h (show ¬ (1 : Int) = 0 by decide)
  · rw [if_neg hu] at h
    exact absurd h (show ¬ (4 : Int) = 0 by decide)
end Go.Proofs.YtjjggmopkfkpaaaGreat
