/-
  A page programmed by a manager, whatever comes of it. Nothing of one statement alone stands here.
-/
import Derived.Test.YtnnpdlebgfjihaaBlkGen
namespace Go.Proofs.Ytnnpdlebgfjihaa
open Go.RowKit Crcm Gcm Go.ChangeShapes

/-- what a programming of the chip answers, and the chip behind it -/
def pgE (c : Ch) (k p : Int) (m : Nat) : Int := if prE c k p m = 0 then endE (fnd c.fl c.since).kind else prE c k p m
def pgC (c : Ch) (k p : Int) (l : List Int) : Ch := if prE c k p l.length = 0 then prC c k.toNat p.toNat l else c
theorem pgC_same (c : Ch) (k p : Int) (l : List Int) : (pgC c k p l).nb = c.nb ∧ (pgC c k p l).np = c.np := by
  unfold pgC
  split
  · exact prC_same c _ _ l
  · exact ⟨rfl, rfl⟩
theorem cprog_any {w : World} {X : Nat → Prop} {o : Own} {c : Ch} (h : ChAt w X o c) (k p : Int) (a : Option Addr) (cap : Nat) (l : List Int) (hr : RwX w X a l) (m : Nat) (hl : l.length = m) :
    Calls Try.prog 38 #[o.p, .int .i64 k, .int .i64 p, .slice a m cap] w fun e w' => e = .returned (.int .i64 (pgE c k p m)) ∧ ChAt w' X o (pgC c k p l) ∧ Kp (o.F c.nb) w w' := by
  subst hl
  have hm : l.length ≤ maxLen := hr.1.2.1
  unfold pgE pgC
  by_cases g : prE c k p l.length = 0
  · rw [if_pos g, if_pos g]
    obtain ⟨g1, g2, -⟩ := prE_zero g
    obtain ⟨g3, g4, g5⟩ := rpE_zero g1
    obtain ⟨-, g6, g7⟩ := reE_zero g3
    obtain ⟨n, rfl⟩ : ∃ n : Nat, k = n := ⟨k.toNat, by omega⟩
    obtain ⟨q, rfl⟩ : ∃ n : Nat, p = n := ⟨p.toNat, by omega⟩
    rw [g2] at g
    rw [g2, Int.toNat_natCast, Int.toNat_natCast]
    exact program_yes h n q a cap l hr g2 g
  · rw [if_neg g, if_neg g]
    refine (program_no h k p a l.length cap hm g).mono ?_
    rintro e w' ⟨rfl, rfl⟩
    exact ⟨rfl, h, Kp.refl _ _⟩

def clsB (y : Bk) : Bk := closeB y.st y.lv y.wr y.nx
/-- a page programmed, by so many rounds at most -/
def prgF (b : List Int) : Nat → List Bk → Ch → (Int × Int × Int) × List Bk × Ch
  | 0, l, c => ((0, 0, 0), l, c)
  | j + 1, l, c =>
    if (obI c.wear l).1 < 0 then ((0, 0, 40), (obI c.wear l).2, c) else
    if pgE c (obI c.wear l).1 (obI c.wear l).2[(obI c.wear l).1.toNat]!.nx b.length = 0 then (((obI c.wear l).1, (obI c.wear l).2[(obI c.wear l).1.toNat]!.nx, 0), (obI c.wear l).2.set (obI c.wear l).1.toNat (fillB c.np (obI c.wear l).2[(obI c.wear l).1.toNat]!), pgC c (obI c.wear l).1 (obI c.wear l).2[(obI c.wear l).1.toNat]!.nx b) else
    if pgE c (obI c.wear l).1 (obI c.wear l).2[(obI c.wear l).1.toNat]!.nx b.length = 11 then (((obI c.wear l).1, (obI c.wear l).2[(obI c.wear l).1.toNat]!.nx, 11), (obI c.wear l).2.set (obI c.wear l).1.toNat (clsB (obI c.wear l).2[(obI c.wear l).1.toNat]!), pgC c (obI c.wear l).1 (obI c.wear l).2[(obI c.wear l).1.toNat]!.nx b) else
    if pgE c (obI c.wear l).1 (obI c.wear l).2[(obI c.wear l).1.toNat]!.nx b.length = 10 then prgF b j ((obI c.wear l).2.set (obI c.wear l).1.toNat (clsB (obI c.wear l).2[(obI c.wear l).1.toNat]!)) (pgC c (obI c.wear l).1 (obI c.wear l).2[(obI c.wear l).1.toNat]!.nx b) else
    ((0, 0, pgE c (obI c.wear l).1 (obI c.wear l).2[(obI c.wear l).1.toNat]!.nx b.length), (obI c.wear l).2, pgC c (obI c.wear l).1 (obI c.wear l).2[(obI c.wear l).1.toNat]!.nx b)
/-- one round of it -/
theorem prgF_full {b : List Int} {j : Nat} {l : List Bk} {c : Ch} (h : (obI c.wear l).1 < 0) : prgF b (j + 1) l c = ((0, 0, 40), (obI c.wear l).2, c) := by rw [prgF, if_pos h]
theorem prgF_ok {b : List Int} {j : Nat} {l l1 : List Bk} {c : Ch} {k : Nat} {y : Bk} {p e : Int} (h : obI c.wear l = ((k : Int), l1)) (hy : l1[k]! = y) (hp : y.nx = p) (he : pgE c k p b.length = e) :
    prgF b (j + 1) l c = if e = 0 then (((k : Int), p, 0), l1.set k (fillB c.np y), pgC c k p b) else if e = 11 then (((k : Int), p, 11), l1.set k (clsB y), pgC c k p b) else if e = 10 then prgF b j (l1.set k (clsB y)) (pgC c k p b) else ((0, 0, e), l1, pgC c k p b) := by
  rw [prgF, h]
  dsimp only
  rw [if_neg (by omega), Int.toNat_natCast, hy, hp, he]
/-- how many blocks are free or open -/
def fo (l : List Bk) : Nat := l.countP (fun y => y.st == 0 || y.st == 1)
theorem obI_fo (f : Nat → Int) (l : List Bk) {k : Nat} {l1 : List Bk} (h : obI f l = ((k : Int), l1)) : k < l.length ∧ l1.length = l.length ∧ fo l1 = fo l ∧ (l1[k]!.st == 1) = true := by
  unfold obI at h
  by_cases g : fop l < l.length
  · rw [if_pos g] at h
    obtain ⟨h1, h2⟩ := Prod.mk.inj h
    subst h2
    rcases fop_cases l with ⟨q, hq, a1, a2, a3⟩ | ⟨-, a3⟩
    · have : k = q := by omega
      subst this
      exact ⟨hq, rfl, rfl, a1⟩
    · omega
  · rw [if_neg g] at h
    by_cases g2 : ob f l l.length < 0
    · rw [if_pos g2] at h
      obtain ⟨h1, h2⟩ := Prod.mk.inj h
      omega
    · rw [if_neg g2] at h
      obtain ⟨h1, h2⟩ := Prod.mk.inj h
      have hlt := (ob_lt f l l.length).2
      have hk : (ob f l l.length).toNat = k := by omega
      rw [hk] at h2
      have hkl : k < l.length := by omega
      have hst : ∀ n, 0 ≤ ob f l n → (l[(ob f l n).toNat]!.st == 0) = true := by
        intro n
        induction n with
        | zero => intro q; simp [ob] at q
        | succ n ih =>
          rw [ob]
          split
          · rename_i s0
            split
            · intro _; rw [Int.toNat_natCast]; exact s0
            · rename_i s1; intro q; exact ih q
          · intro q; exact ih q
      have hs := hst l.length (by omega)
      rw [hk] at hs
      subst h2
      refine ⟨hkl, by rw [List.length_set], ?_, ?_⟩
      · unfold fo
        rw [List.countP_set hkl]
        rw [getElem!_pos l k hkl] at hs
        have hpos : 0 < List.countP (fun y : Bk => y.st == 0 || y.st == 1) l := List.countP_pos_iff.2 ⟨l[k], List.getElem_mem hkl, by rw [hs]; rfl⟩
        simp only [hs, Bool.true_or, if_true]
        simp
        omega
      · rw [set_getB _ _ _ _ hkl, if_pos rfl]
        rfl
theorem fo_close {l : List Bk} {k : Nat} (hk : k < l.length) (h : (l[k]!.st == 1) = true) : fo (l.set k (clsB l[k]!)) < fo l := by
  unfold fo
  rw [List.countP_set hk]
  rw [getElem!_pos l k hk] at h ⊢
  have hpos : 0 < List.countP (fun y : Bk => y.st == 0 || y.st == 1) l := List.countP_pos_iff.2 ⟨l[k], List.getElem_mem hk, by rw [h, Bool.or_true]⟩
  have hc : ((clsB l[k]).st == 0 || (clsB l[k]).st == 1) = false := by
    unfold clsB closeB
    split <;> rfl
  simp only [h, Bool.or_true, if_true, hc]
  simp
  omega
theorem fo_le (l : List Bk) : fo l ≤ l.length := List.countP_le_length

end Go.Proofs.Ytnnpdlebgfjihaa
