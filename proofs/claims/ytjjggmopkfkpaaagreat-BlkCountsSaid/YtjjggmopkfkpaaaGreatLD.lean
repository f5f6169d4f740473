/-
  A manager and the document's in memory, and their calls, one beside the other. Nothing of one statement alone stands here.
-/
import Derived.Test.YtjjggmopkfkpaaaGreatKZ
import Derived.Test.YtjjggmopkfkpaaaGreatKX
import Derived.Test.YtjjggmopkfkpaaaGreatKQ
import Derived.Test.YtjjggmopkfkpaaaGreatKP
import Derived.Test.YtjjggmopkfkpaaaGreatKM
import Derived.Test.YtjjggmopkfkpaaaGreatKS
import Derived.Test.YtjjggmopkfkpaaaGreatKG
import Derived.Test.YtjjggmopkfkpaaaGreatLC
import Derived.Deep.RegionHeld3
namespace Go.Proofs.YtjjggmopkfkpaaaGreat
open Go.RowKit Crcm Gcm Go.ChangeShapes

theorem Rw.outX {w : World} {X : Nat → Prop} {A : Option Addr} {l : List Int} (h : Rw w A l) (hX : ∀ b, X b → w.heap.size ≤ b) : RwX w X A l := by
  refine ⟨h, fun b off s e hl g => ?_⟩
  rcases h.2.2 with h3 | ⟨b', off', e', h3⟩
  · exact hl h3
  · rw [e'] at e
    injection e with e
    injection e with e1 e2 e3
    subst e1
    have hp : 0 < l.length := by
      cases l with
      | nil => exact absurd rfl hl
      | cons x r => simp
    have h1 : b' < w.heap.size := block_lt_of_cell (h3 0 hp)
    have h2 := hX _ g
    omega
theorem FlAt.outX {w : World} {X : Nat → Prop} {v : Value} {fl : List Fl} (h : FlAt w (fun _ => False) v fl) (hX : ∀ b, X b → w.heap.size ≤ b) : FlAt w X v fl := by
  obtain ⟨a, cap, h1, h2, h3⟩ := h
  refine ⟨a, cap, h1, h2, ?_⟩
  by_cases h0 : fl = []
  · exact .inl h0
  rcases h3 with h3 | ⟨b, off, rfl, hx, h3⟩
  · exact absurd h3 h0
  have hp : 0 < fl.length := by
    cases fl with
    | nil => exact absurd rfl h0
    | cons x r => simp
  refine .inr ⟨b, off, rfl, fun g => ?_, fun j hj => ?_⟩
  · have h1 : b < w.heap.size := block_lt_of_cell (h3 0 hp).1
    have h2 := hX _ g
    omega
  · obtain ⟨c0, c1, da, dc, c2, hr, hl⟩ := h3 j hj
    exact ⟨c0, c1, da, dc, c2, hr.1.outX hX, hl⟩
theorem RwX.belowX {w w' : World} {X : Nat → Prop} {A : Option Addr} {l : List Int} (h : RwX w X A l) (hb : Below w.heap.size w w') : RwX w' X A l := h.kp (F := fun _ => False) (Kp.of_below hb) (fun _ g => g.elim)
theorem FlAt.belowX {w w' : World} {X : Nat → Prop} {v : Value} {fl : List Fl} (h : FlAt w X v fl) (hb : Below w.heap.size w w') : FlAt w' X v fl := h.kp (F := fun _ => False) (Kp.of_below hb) (fun _ g => g.elim)

/-- a manager and the document's -/
structure Pr (w : World) (X : Nat → Prop) (M : Nat) (m : Mg) (o : Own) (c : Ch) (r : Rb) (q : Rq) : Prop where
  mg : MgAt w M m
  ch : ChAt w X o c
  cp : m.cp = o.p
  ln : m.l.length = c.nb
  rm : ∃ dn, RmAt w X r q c.nb c.np c.sz dn
  xg : X m.g
  oM : ¬ o.F c.nb M
  og : ¬ o.F c.nb m.g
  sep : ∀ b, RmF r q b → ¬ o.F c.nb b ∧ b ≠ m.g ∧ b ≠ M
theorem Pr.below {w w' : World} {X : Nat → Prop} {M : Nat} {m : Mg} {o : Own} {c : Ch} {r : Rb} {q : Rq} (h : Pr w X M m o c r q) (hb : Below w.heap.size w w') : Pr w' X M m o c r q := by
  obtain ⟨dn, hr⟩ := h.rm
  exact ⟨h.mg.below hb, h.ch.below hb, h.cp, h.ln, ⟨dn, hr.below hb⟩, h.xg, h.oM, h.og, h.sep⟩
theorem Pr.fmX {w : World} {X : Nat → Prop} {M : Nat} {m : Mg} {o : Own} {c : Ch} {r : Rb} {q : Rq} (h : Pr w X M m o c r q) : ∀ b, Fm o c.nb m.g b → X b := by
  rintro b (hb | rfl)
  · exact h.ch.inX b hb
  · exact h.xg
theorem Pr.rfX {w : World} {X : Nat → Prop} {M : Nat} {m : Mg} {o : Own} {c : Ch} {r : Rb} {q : Rq} (h : Pr w X M m o c r q) : ∀ b, RmF r q b → X b := by
  obtain ⟨dn, hr⟩ := h.rm
  rintro b (hb | hb)
  · exact hr.chip.inX b hb
  · exact hr.inX b hb
/-- behind a call of the program's -/
theorem Pr.own {w w' : World} {X : Nat → Prop} {M : Nat} {m : Mg} {l' : List Bk} {o : Own} {c c' : Ch} {r : Rb} {q : Rq} (h : Pr w X M m o c r q) (hm : MgAt w' M { m with l := l' }) (hc : ChAt w' X o c') (hk : Kp (Fm o c.nb m.g) w w') (e1 : l'.length = m.l.length) (e2 : c'.nb = c.nb ∧ c'.np = c.np ∧ c'.sz = c.sz) : Pr w' X M { m with l := l' } o c' r q := by
  obtain ⟨dn, hr⟩ := h.rm
  obtain ⟨n1, n2, n3⟩ := e2
  refine ⟨hm, hc, h.cp, ?_, ⟨dn, ?_⟩, h.xg, by rw [n1]; exact h.oM, by rw [n1]; exact h.og, by rw [n1]; exact h.sep⟩
  · show l'.length = c'.nb
    rw [e1, n1]; exact h.ln
  · rw [n1, n2, n3]
    exact hr.kp hk h.fmX (fun b hb g => by
      obtain ⟨s1, s2, s3⟩ := h.sep b hb
      rcases g with g | g
      · exact s1 g
      · exact s2 g)
/-- behind a call of the document's -/
theorem Pr.doc {w w' : World} {X : Nat → Prop} {M : Nat} {m : Mg} {o : Own} {c : Ch} {r : Rb} {q : Rq} (h : Pr w X M m o c r q) (hr : ∃ dn, RmAt w' X r q c.nb c.np c.sz dn) (hk : Kp (RmF r q) w w') : Pr w' X M m o c r q :=
  ⟨h.mg.kp hk (fun g => (h.sep _ g).2.2 rfl) (fun g => (h.sep _ g).2.1 rfl), h.ch.kp hk h.rfX (fun b hb g => (h.sep b g).1 hb), h.cp, h.ln, hr, h.xg, h.oM, h.og, h.sep⟩

theorem Pr.kp {w w' : World} {X F : Nat → Prop} {M : Nat} {m : Mg} {o : Own} {c : Ch} {r : Rb} {q : Rq} (h : Pr w X M m o c r q) (hk : Kp F w w') (hf : ∀ b, F b → X b) (hd : ∀ b, F b → ¬ Fm o c.nb m.g b ∧ ¬ RmF r q b ∧ b ≠ M) : Pr w' X M m o c r q := by
  obtain ⟨dn, hr⟩ := h.rm
  exact ⟨h.mg.kp hk (fun g => (hd _ g).2.2 rfl) (fun g => (hd _ g).1 (.inr rfl)), h.ch.kp hk hf (fun b hb g => (hd b g).1 (.inl hb)), h.cp, h.ln, ⟨dn, hr.kp hk hf (fun b hb g => (hd b g).2.1 hb)⟩, h.xg, h.oM, h.og, h.sep⟩
theorem RmAt.widen {w w' : World} {X X' : Nat → Prop} {o : Rb} {q : Rq} {nb np sz : Nat} {dn : Bool} (h : RmAt w X o q nb np sz dn) (hb : Below w.heap.size w w') (hX : ∀ b, X' b → X b ∨ w.heap.size ≤ b) (hO : ∀ b, X' b → b < w'.heap.size) (hI : ∀ b, X b → X' b) : RmAt w' X' o q nb np sz dn := by
  have h2 := h.below hb
  exact ⟨h.chip.widen hb hX hO hI, h2.blk, h2.st, h2.lv, h2.nx, fun b hb => hI _ (h.inX b hb), h.far, h.ne⟩
theorem Pr.widen {w w' : World} {X X' : Nat → Prop} {M : Nat} {m : Mg} {o : Own} {c : Ch} {r : Rb} {q : Rq} (h : Pr w X M m o c r q) (hb : Below w.heap.size w w') (hX : ∀ b, X' b → X b ∨ w.heap.size ≤ b) (hO : ∀ b, X' b → b < w'.heap.size) (hI : ∀ b, X b → X' b) : Pr w' X' M m o c r q := by
  obtain ⟨dn, hr⟩ := h.rm
  exact ⟨h.mg.below hb, h.ch.widen hb hX hO hI, h.cp, h.ln, ⟨dn, hr.widen hb hX hO hI⟩, hI _ h.xg, h.oM, h.og, h.sep⟩
/-- behind an append to a row of the caller's own -/
theorem Pr.grow {w w' : World} {X : Nat → Prop} {M : Nat} {m : Mg} {o : Own} {c : Ch} {r : Rb} {q : Rq} (h : Pr w X M m o c r q) (o' : Obj) {row : Option Nat} {v' : Value} (hg : (w.alloc o').grownBy w' row) (hr : ∀ g, row = some g → X g ∧ ¬ Fm o c.nb m.g g ∧ ¬ RmF r q g ∧ g ≠ M)
    (hv : v'.ownBlock = row ∨ v'.ownBlock = some (w.alloc o').heap.size) (hlt : ∀ g, v'.ownBlock = some g → g < w'.heap.size) : ∃ X', Pr w' X' M m o c r q ∧ (∀ b, X b → X' b) ∧ (∀ b, X' b → X b ∨ w.heap.size ≤ b) ∧ ∀ g, v'.ownBlock = some g → X' g := by
  have hal : Below w.heap.size w (w.alloc o') := (Below.refl _ _).alloc (Nat.le_refl _) _
  have hK : Kp (fun b => row = some b) (w.alloc o') w' := ⟨hg.os, hg.tape, hg.output, hg.size, fun k hk hf => hg.block k hk (fun e => hf e.symm)⟩
  have h2 := h.below hal
  rcases hv with e | e
  · exact ⟨X, h2.kp hK (fun b hb => (hr b hb).1) (fun b hb => (hr b hb).2), fun _ h => h, fun _ h => .inl h, fun g hg => (hr g (by rw [← e]; exact hg)).1⟩
  · have hn := hlt _ e
    have hw := h2.widen (w' := (w.alloc o').alloc o') (X' := fun b => X b ∨ b = (w.alloc o').heap.size) ((Below.refl _ _).alloc (Nat.le_refl _) _) (fun b hb => by
      rcases hb with hb | rfl
      · exact .inl hb
      · exact .inr (Nat.le_refl _)) (fun b hb => by
      rw [World.size_alloc]
      rcases hb with hb | rfl
      · have := h2.ch.old b hb; omega
      · omega) (fun b hb => .inl hb)
    have hK2 : Kp (fun b => row = some b ∨ b = (w.alloc o').heap.size) ((w.alloc o').alloc o') w' := by
      refine ⟨hK.os, hK.tape, hK.output, by rw [World.size_alloc]; omega, fun k hk hf => ?_⟩
      rw [World.size_alloc] at hk
      have hk2 : k < (w.alloc o').heap.size := by
        have : k ≠ (w.alloc o').heap.size := fun e => hf (.inr e)
        omega
      rw [hg.block k hk2 (fun e => hf (.inl e.symm)), Below.heap_alloc _ _ k hk2]
    have hs : w.heap.size ≤ (w.alloc o').heap.size := hal.size
    obtain ⟨dn, hr0⟩ := h2.rm
    refine ⟨_, hw.kp hK2 (fun b hb => ?_) (fun b hb => ?_), fun _ h => .inl h, fun b hb => ?_, fun g hg2 => .inr ?_⟩
    · rcases hb with hb | rfl
      · exact .inl (hr b hb).1
      · exact .inr rfl
    · rcases hb with hb | rfl
      · exact (hr b hb).2
      · refine ⟨fun hb => ?_, fun hb => ?_, fun hb => ?_⟩
        · have := h2.ch.old _ (h2.fmX _ hb); omega
        · have := h2.ch.old _ (h2.rfX _ hb); omega
        · have := h2.mg.blk.lt; omega
    · rcases hb with hb | rfl
      · exact .inl hb
      · exact .inr hs
    · rw [e] at hg2; injection hg2 with hg2; exact hg2.symm

/-- a page dropped -/
def dpT (k : Int) (l : List Bk) : Int × List Bk := if 0 ≤ k ∧ k < l.length ∧ l[k.toNat]!.lv ≠ 0 then (0, l.set k.toNat (dropB l[k.toNat]!.st l[k.toNat]!.lv l[k.toNat]!.wr l[k.toNat]!.nx)) else (1, l)
theorem bdrop_any {w : World} {M : Nat} {m : Mg} (h : MgAt w M m) (k : Int) : Calls Tryz.prog 11 #[.pointer (some ⟨M, 0, none⟩), .int .i64 k] w fun e w' => e = .returned (.int .i64 (dpT k m.l).1) ∧ MgAt w' M { m with l := (dpT k m.l).2 } ∧ Kp (fun b => b = m.g) w w' := by
  unfold dpT
  by_cases hk : 0 ≤ k ∧ k < m.l.length ∧ m.l[k.toNat]!.lv ≠ 0
  · rw [if_pos hk]
    obtain ⟨n, rfl⟩ : ∃ n : Nat, k = n := ⟨k.toNat, by omega⟩
    rw [Int.toNat_natCast] at hk ⊢
    exact drop_yes h n (by omega) _ _ _ _ rfl (beq_eq_false_iff_ne.2 hk.2.2) (i64_wrap _)
  · rw [if_neg hk]
    refine (drop_no h k ?_).mono ?_
    · by_cases h1 : k < 0 ∨ (m.l.length : Int) ≤ k
      · exact .inl h1
      · refine .inr ⟨k.toNat, by omega, by omega, ?_⟩
        by_cases h2 : m.l[k.toNat]!.lv = 0
        · exact h2
        · exact absurd ⟨by omega, by omega, h2⟩ hk
    · rintro e w' ⟨rfl, rfl⟩
      exact ⟨rfl, h, Kp.refl _ _⟩

/-- a block's number stays -/
theorem dpT_len (k : Int) (l : List Bk) : (dpT k l).2.length = l.length := by
  unfold dpT; split <;> simp
theorem eraT_len (k : Int) (l : List Bk) (c : Ch) : (eraT k l c).2.1.length = l.length := by
  unfold eraT
  split
  · split
    · simp
    · split
      · simp
      · split
        · simp
        · rfl
  · rfl
theorem retT_len (k : Int) (l : List Bk) (c : Ch) : (retT k l c).2.1.length = l.length := by
  unfold retT; split <;> simp
end Go.Proofs.YtjjggmopkfkpaaaGreat

/-
  An operation done with a manager and with the document's (made by gen_suplays.py). Nothing of one statement alone stands here.
-/
namespace Go.Proofs.YtjjggmopkfkpaaaGreat
open Go.RowKit Crcm Gcm Go.ChangeShapes

/-- what an operation keeps of a manager's blocks and its chip -/
structure Zc (Z : List Bk → Ch → Prop) (y : Bo) : Prop where
  d : y.kind = 2 → ∀ l c, l.length = c.nb → Z l c → Z (dpT y.block l).2 c
  e : y.kind = 3 → ∀ l c, l.length = c.nb → Z l c → Z (eraT y.block l c).2.1 (eraT y.block l c).2.2
  r : y.kind = 4 → ∀ l c, l.length = c.nb → Z l c → Z (retT y.block l c).2.1 (retT y.block l c).2.2
  u : ∀ l c u, Z l c → Z l { c with up := u }
/-- the blocks of memory that the calls of both turn -/
def Qm (o : Own) (nb g : Nat) (r : Rb) (q : Rq) (b : Nat) : Prop := Fm o nb g b ∨ RmF r q b
/-- what stands while an operation is done: the box, both managers -/
structure PsS (w0 : World) (X : Nat → Prop) (M : Nat) (m0 : Mg) (o : Own) (nb : Nat) (r : Rb) (q : Rq) (Z : List Bk → Ch → Prop) (pb : Nat) (cs : Array Value) (w : World) : Prop where
  box : Blk w pb 42 cs
  nx : ¬ X pb
  pr : ∃ l c, Pr w X M { m0 with l := l } o c r q ∧ Z l c ∧ c.nb = nb
  kp : Kp (Qm o nb m0.g r q) w0 w
section
variable {w0 : World} {X : Nat → Prop} {M : Nat} {m0 : Mg} {o : Own} {nb : Nat} {r : Rb} {q : Rq} {Z : List Bk → Ch → Prop} {pb : Nat} {cs : Array Value}
theorem PsS.below {w w' : World} (h : PsS w0 X M m0 o nb r q Z pb cs w) (hb : Below w.heap.size w w') : PsS w0 X M m0 o nb r q Z pb cs w' := by
  obtain ⟨l, c, h1, h2⟩ := h.pr
  exact ⟨h.box.below hb h.box.lt, h.nx, ⟨l, c, h1.below hb, h2⟩, h.kp.trans (Kp.of_below hb)⟩
theorem PsS.own {w w' : World} {l l' : List Bk} {c c' : Ch} {F : Nat → Prop} (h : PsS w0 X M m0 o nb r q Z pb cs w) (h1 : Pr w X M { m0 with l := l } o c r q) (hm : MgAt w' M { m0 with l := l' }) (hc : ChAt w' X o c') (hk : Kp F w w') (hF : ∀ b, F b → Fm o c.nb m0.g b) (e1 : l'.length = l.length) (e2 : c'.nb = c.nb ∧ c'.np = c.np ∧ c'.sz = c.sz) (hz : Z l' c') (hn : c.nb = nb) : PsS w0 X M m0 o nb r q Z pb cs w' := by
  have hk2 := hk.mono hF
  have hp := Pr.own (l' := l') h1 hm hc hk2 e1 e2
  exact ⟨h.box.kp hk2 (fun g => h.nx (h1.fmX _ g)), h.nx, ⟨l', c', hp, hz, e2.1.trans hn⟩, h.kp.trans (hk2.mono (fun _ hb => .inl (by rw [← hn]; exact hb)))⟩
theorem PsS.doc {w w' : World} {l : List Bk} {c : Ch} (h : PsS w0 X M m0 o nb r q Z pb cs w) (h1 : Pr w X M { m0 with l := l } o c r q) (hz : Z l c ∧ c.nb = nb) (hr : ∃ dn, RmAt w' X r q c.nb c.np c.sz dn) (hk : Kp (RmF r q) w w') : PsS w0 X M m0 o nb r q Z pb cs w' :=
  ⟨h.box.kp hk (fun g => h.nx (h1.rfX _ g)), h.nx, ⟨l, c, h1.doc hr hk, hz⟩, h.kp.trans (hk.mono (fun _ hb => .inr hb))⟩
theorem ps_drop (k : Int) (hZ : ∀ l c, l.length = c.nb → Z l c → Z (dpT k l).2 c) (w : World) (hS : PsS w0 X M m0 o nb r q Z pb cs w) :
    Calls Tryz.prog 11 #[.pointer (some ⟨M, 0, none⟩), .int .i64 k] w fun e w' => (∃ x : Int, e = .returned (.int .i64 x)) ∧ PsS w0 X M m0 o nb r q Z pb cs w' := by
  obtain ⟨l, c, h1, h2⟩ := hS.pr
  refine (bdrop_any h1.mg k).mono ?_
  rintro e w' ⟨rfl, hm, hk⟩
  exact ⟨⟨_, rfl⟩, hS.own h1 hm (h1.ch.kp hk (fun b e => by rw [e]; exact h1.xg) (fun b hb e => h1.og (by have e2 : b = m0.g := e; rw [e2] at hb; exact hb))) hk (fun b e => .inr e) (dpT_len k l) ⟨rfl, rfl, rfl⟩ (hZ l c h1.ln h2.1) h2.2⟩
theorem ps_rdrop (k : Int) (w : World) (hS : PsS w0 X M m0 o nb r q Z pb cs w) :
    Calls Tryz.prog 12 #[.pointer (some ⟨q.d, 0, none⟩), .int .i64 k] w fun e w' => (∃ x : Int, e = .returned (.int .i64 x)) ∧ PsS w0 X M m0 o nb r q Z pb cs w' := by
  obtain ⟨l, c, h1, h2⟩ := hS.pr
  obtain ⟨dn, hr⟩ := h1.rm
  refine (rmdrop_any hr k).mono ?_
  rintro e w' ⟨⟨x, rfl⟩, hr', hk⟩
  exact ⟨⟨_, rfl⟩, hS.doc h1 h2 hr' hk⟩
theorem ps_erase (k : Int) (hZ : ∀ l c, l.length = c.nb → Z l c → Z (eraT k l c).2.1 (eraT k l c).2.2) (w : World) (hS : PsS w0 X M m0 o nb r q Z pb cs w) :
    Calls Tryz.prog 40 #[.pointer (some ⟨M, 0, none⟩), .int .i64 k] w fun e w' => (∃ x : Int, e = .returned (.int .i64 x)) ∧ PsS w0 X M m0 o nb r q Z pb cs w' := by
  obtain ⟨l, c, h1, h2⟩ := hS.pr
  refine (bera_any h1.mg h1.ch h1.cp h1.xg h1.oM h1.og k).mono ?_
  rintro e w' ⟨rfl, hm, hc, hk⟩
  have hd := eraT_kd k l c
  exact ⟨⟨_, rfl⟩, hS.own h1 hm hc hk (fun b e => e) (eraT_len k l c) ⟨hd.1, hd.2.1, hd.2.2.1⟩ (hZ l c h1.ln h2.1) h2.2⟩
theorem ps_rerase (k : Int) (w : World) (hS : PsS w0 X M m0 o nb r q Z pb cs w) :
    Calls Tryz.prog 41 #[.pointer (some ⟨q.d, 0, none⟩), .int .i64 k] w fun e w' => (∃ x : Int, e = .returned (.int .i64 x)) ∧ PsS w0 X M m0 o nb r q Z pb cs w' := by
  obtain ⟨l, c, h1, h2⟩ := hS.pr
  obtain ⟨dn, hr⟩ := h1.rm
  refine (rmera_any hr k).mono ?_
  rintro e w' ⟨⟨x, rfl⟩, hr', hk⟩
  exact ⟨⟨_, rfl⟩, hS.doc h1 h2 hr' hk⟩
theorem ps_retire (k : Int) (hZ : ∀ l c, l.length = c.nb → Z l c → Z (retT k l c).2.1 (retT k l c).2.2) (w : World) (hS : PsS w0 X M m0 o nb r q Z pb cs w) :
    Calls Tryz.prog 42 #[.pointer (some ⟨M, 0, none⟩), .int .i64 k] w fun e w' => (∃ x : Int, e = .returned (.int .i64 x)) ∧ PsS w0 X M m0 o nb r q Z pb cs w' := by
  obtain ⟨l, c, h1, h2⟩ := hS.pr
  refine (bret_any h1.mg h1.ch h1.cp h1.ln h1.xg h1.oM h1.og k).mono ?_
  rintro e w' ⟨rfl, hm, hc, hk⟩
  have hd := retT_kd k l c (fun _ => False)
  exact ⟨⟨_, rfl⟩, hS.own h1 hm hc hk (fun b e => e) (retT_len k l c) ⟨hd.1, hd.2.1, hd.2.2.1⟩ (hZ l c h1.ln h2.1) h2.2⟩
theorem ps_rretire (k : Int) (w : World) (hS : PsS w0 X M m0 o nb r q Z pb cs w) :
    Calls Tryz.prog 43 #[.pointer (some ⟨q.d, 0, none⟩), .int .i64 k] w fun e w' => (∃ x : Int, e = .returned (.int .i64 x)) ∧ PsS w0 X M m0 o nb r q Z pb cs w' := by
  obtain ⟨l, c, h1, h2⟩ := hS.pr
  obtain ⟨dn, hr⟩ := h1.rm
  refine (rretire_any hr k).mono ?_
  rintro e w' ⟨⟨x, rfl⟩, hr', hk⟩
  exact ⟨⟨_, rfl⟩, hS.doc h1 h2 hr' hk⟩
theorem ps_lose (hZ : ∀ l c u, Z l c → Z l { c with up := u }) (w : World) (hS : PsS w0 X M m0 o nb r q Z pb cs w) :
    Calls Tryz.prog 44 #[o.p] w fun e w' => e = .returned (.tuple #[]) ∧ PsS w0 X M m0 o nb r q Z pb cs w' := by
  obtain ⟨l, c, h1, h2⟩ := hS.pr
  refine (lose_any h1.ch).mono ?_
  rintro e w' ⟨rfl, hc, hk⟩
  exact ⟨rfl, hS.own h1 (h1.mg.kp hk h1.oM h1.og) hc hk (fun b e => .inl e) rfl ⟨rfl, rfl, rfl⟩ (hZ l c false h2.1) h2.2⟩
theorem ps_start (hZ : ∀ l c u, Z l c → Z l { c with up := u }) (w : World) (hS : PsS w0 X M m0 o nb r q Z pb cs w) :
    Calls Tryz.prog 45 #[o.p] w fun e w' => e = .returned (.tuple #[]) ∧ PsS w0 X M m0 o nb r q Z pb cs w' := by
  obtain ⟨l, c, h1, h2⟩ := hS.pr
  refine (start_any h1.ch).mono ?_
  rintro e w' ⟨rfl, hc, hk⟩
  exact ⟨rfl, hS.own h1 (h1.mg.kp hk h1.oM h1.og) hc hk (fun b e => .inl e) rfl ⟨rfl, rfl, rfl⟩ (hZ l c true h2.1) h2.2⟩
/-- the document's chip goes down, or up -/
theorem ps_down (t : Bool) (w : World) (hS : PsS w0 X M m0 o nb r q Z pb cs w) : w.cell? ⟨q.d, 0, none⟩ = some (.pointer (some ⟨r.g, 0, none⟩)) ∧ (∃ dn, w.cell? ⟨r.g, 10, none⟩ = some (.bool dn)) ∧ w.frozen? ⟨r.g, 10, none⟩ = false ∧ PsS w0 X M m0 o nb r q Z pb cs (w.setCell ⟨r.g, 10, none⟩ (.bool t)) := by
  obtain ⟨l, c, h1, h2⟩ := hS.pr
  obtain ⟨dn, hr⟩ := h1.rm
  have hk : Kp r.F w (w.setCell ⟨r.g, 10, none⟩ (.bool t)) := (Kp.refl r.F w).setCell (p := ⟨r.g, 10, none⟩) (.inl (.inl rfl)) _
  exact ⟨hr.cells.1, ⟨dn, hr.chip.geo.2.2.2.1⟩, (hr.chip.froz 10).1, hS.doc h1 h2 ⟨t, hr.chipped hk (hr.chip.putd t)⟩ (hk.mono (fun b hb => .inl hb))⟩
end

set_option maxRecDepth 100000 in
set_option maxHeartbeats 4000000 in
theorem splays_any {w : World} {X : Nat → Prop} {M : Nat} {m0 : Mg} {o : Own} {c : Ch} {r : Rb} {q : Rq} {Z : List Bk → Ch → Prop} (h : Pr w X M m0 o c r q) (hz : Z m0.l c) (y : Bo) (hZ : Zc Z y) (h1 : y.kind ≠ 1) (A : Option Addr) (n cc : Nat) :
    Calls Tryz.prog 13 #[.pointer (some ⟨M, 0, none⟩), o.p, .pointer (some ⟨q.d, 0, none⟩), .agg #[.int .i64 y.kind, .int .i64 y.block, .slice A n cc]] w fun e w' =>
      (∃ t : Bool, e = .returned (.bool t)) ∧ (∃ l c', Pr w' X M { m0 with l := l } o c' r q ∧ Z l c' ∧ c'.nb = c.nb) ∧ Kp (Qm o c.nb m0.g r q) w w' := by
  obtain ⟨kd, bl, bs⟩ := y
  dsimp only at h1 ⊢
  have hal := (Below.refl w.heap.size w).alloc (Nat.le_refl _) (.cells #[.int .i64 kd, .int .i64 bl, .slice A n cc] 42)
  have HS0 : Hid (PsS w X M m0 o c.nb r q Z w.heap.size #[.int .i64 kd, .int .i64 bl, .slice A n cc] (w.alloc (.cells #[.int .i64 kd, .int .i64 bl, .slice A n cc] 42))) := Lib.hid ⟨Blk.new w _ _, fun g => by have := h.ch.old _ g; omega, ⟨m0.l, c, h.below hal, hz, rfl⟩, Kp.of_below hal⟩
  have HZ := Lib.hid hZ
  have HFin : Hid (∀ t w', PsS w X M m0 o c.nb r q Z w.heap.size #[.int .i64 kd, .int .i64 bl, .slice A n cc] w' → (∃ t' : Bool, Ending.returned (.bool t) = .returned (.bool t')) ∧ (∃ l c', Pr w' X M { m0 with l := l } o c' r q ∧ Z l c' ∧ c'.nb = c.nb) ∧ Kp (Qm o c.nb m0.g r q) w w') := Lib.hid fun t w' hS => ⟨⟨t, rfl⟩, hS.pr, hS.kp⟩
  have hop : o.p = .pointer (some ⟨o.bc, 0, none⟩) := rfl
  rw [hop]
  have t1 : (kd == 1) = false := beq_eq_false_iff_ne.2 h1
  clear h hz hZ h1 hal hop
  go_enter Tryz.func13, Tryz.ntmps13
  go_upto_region 1 with (fail)
  generalize (w.alloc (.cells #[.int .i64 kd, .int .i64 bl, .slice A n cc] 42)) = w1 at HS0 ⊢
  generalize w.heap.size = pb at HS0 HFin ⊢
  have z0 : w1.cell? ⟨pb, 0, none⟩ = some (.int .i64 kd) := HS0.out.box.cell 0
  by_cases k2 : kd = 2
  · have t2 : (kd == 2) = true := beq_iff_eq.2 k2
    have HO := Lib.hid (fun w2 (hS : PsS w X M m0 o c.nb r q Z pb #[.int .i64 kd, .int .i64 bl, .slice A n cc] w2) => ps_drop bl (HZ.out.d k2) w2 hS)
    have HR := Lib.hid (fun w2 (hS : PsS w X M m0 o c.nb r q Z pb #[.int .i64 kd, .int .i64 bl, .slice A n cc] w2) => ps_rdrop bl w2 hS)
    clear k2
    go_upto_region 7 with (fail)
    refine wp_region_held_drew (S := PsS w X M m0 o c.nb r q Z pb #[.int .i64 kd, .int .i64 bl, .slice A n cc]) (by kernel_rfl) (HS0.out.below (Below.refl _ _).drew) (fun hHeld => ?_)
    refine wpAnyH_take (i := 0) (v := .pointer (some ⟨M, 0, none⟩)) rfl (by kernel_rfl) (by kernel_rfl) (by kernel_rfl) (fun _ _ _ h => h) (Or.inl ⟨by kernel_rfl, ?_⟩) hHeld ?_
    · intro w' hSw
      have z1 : w'.cell? ⟨pb, 1, none⟩ = some (.int .i64 bl) := hSw.box.cell 1
      go_simp
    refine wpAnyH_take (i := 1) (v := .pointer (some ⟨pb, 1, none⟩)) rfl (by kernel_rfl) (by kernel_rfl) (by kernel_rfl) (fun _ _ _ h => h) (Or.inl ⟨by kernel_rfl, ?_⟩) hHeld ?_
    · intro w' hSw
      have z1 : w'.cell? ⟨pb, 1, none⟩ = some (.int .i64 bl) := hSw.box.cell 1
      go_simp
    refine wpAnyH_take (i := 2) (v := .int .i64 bl) rfl (by kernel_rfl) (by kernel_rfl) (by kernel_rfl) (fun _ _ _ h => h) (Or.inl ⟨by kernel_rfl, ?_⟩) hHeld ?_
    · intro w' hSw
      have z1 : w'.cell? ⟨pb, 1, none⟩ = some (.int .i64 bl) := hSw.box.cell 1
      go_simp
    refine wpAnyH_take (i := 4) (v := .pointer (some ⟨q.d, 0, none⟩)) rfl (by kernel_rfl) (by kernel_rfl) (by kernel_rfl) (fun _ _ _ h => h) (Or.inl ⟨by kernel_rfl, ?_⟩) hHeld ?_
    · intro w' hSw
      have z1 : w'.cell? ⟨pb, 1, none⟩ = some (.int .i64 bl) := hSw.box.cell 1
      go_simp
    refine wpAnyH_take (i := 5) (v := .pointer (some ⟨pb, 1, none⟩)) rfl (by kernel_rfl) (by kernel_rfl) (by kernel_rfl) (fun _ _ _ h => h) (Or.inl ⟨by kernel_rfl, ?_⟩) hHeld ?_
    · intro w' hSw
      have z1 : w'.cell? ⟨pb, 1, none⟩ = some (.int .i64 bl) := hSw.box.cell 1
      go_simp
    refine wpAnyH_take (i := 6) (v := .int .i64 bl) rfl (by kernel_rfl) (by kernel_rfl) (by kernel_rfl) (fun _ _ _ h => h) (Or.inl ⟨by kernel_rfl, ?_⟩) hHeld ?_
    · intro w' hSw
      have z1 : w'.cell? ⟨pb, 1, none⟩ = some (.int .i64 bl) := hSw.box.cell 1
      go_simp
    try simp only [Act.put, List.setIfInBounds_toArray]
    refine wpAnyH_ready (rs := [3]) (by kernel_rfl) (by simp) ?_
    refine AllReadyH.cons rfl (fun K hK => ?_) AllReadyH.nil
    go_simp
    refine (HO.out _ hHeld).mono ?_
    rintro e w2 ⟨⟨x, rfl⟩, hS2⟩
    refine hK.out _ _ hS2 (fun hHeld2 => ?_)
    try simp only [Act.put, List.setIfInBounds_toArray, List.set]
    refine wpAnyH_ready (rs := [7]) (by kernel_rfl) (by simp) ?_
    refine AllReadyH.cons rfl (fun K hK => ?_) AllReadyH.nil
    go_simp
    refine (HR.out _ hHeld2).mono ?_
    rintro e w3 ⟨⟨x2, rfl⟩, hS3⟩
    refine hK.out _ _ hS3 (fun hHeld3 => ?_)
    try simp only [Act.put, List.setIfInBounds_toArray, List.set]
    refine wpAnyH_ready (rs := [8]) (by kernel_rfl) (by simp) ?_
    refine AllReadyH.cons rfl (fun K hK => ?_) AllReadyH.nil
    go_simp
    refine hK.out _ _ hHeld3 (fun _ => ?_)
    try simp only [Act.put, List.setIfInBounds_toArray]
    refine wpAnyH_ready (rs := [9]) (by kernel_rfl) (by simp) ?_
    refine AllReadyH.cons rfl (fun K hK => ?_) AllReadyH.nil
    go_simp
    refine hK.out _ _ hHeld3 (fun _ => ?_)
    refine wpAnyH_done (by kernel_rfl) ?_ _
    go_wp2
    go_ret
    exact HFin.out _ _ hHeld3
  have t2 : (kd == 2) = false := beq_eq_false_iff_ne.2 k2
  by_cases k3 : kd = 3
  · have t3 : (kd == 3) = true := beq_iff_eq.2 k3
    have HO := Lib.hid (fun w2 (hS : PsS w X M m0 o c.nb r q Z pb #[.int .i64 kd, .int .i64 bl, .slice A n cc] w2) => ps_erase bl (HZ.out.e k3) w2 hS)
    have HR := Lib.hid (fun w2 (hS : PsS w X M m0 o c.nb r q Z pb #[.int .i64 kd, .int .i64 bl, .slice A n cc] w2) => ps_rerase bl w2 hS)
    clear k3
    go_upto_region 9 with (fail)
    refine wp_region_held_drew (S := PsS w X M m0 o c.nb r q Z pb #[.int .i64 kd, .int .i64 bl, .slice A n cc]) (by kernel_rfl) (HS0.out.below (Below.refl _ _).drew) (fun hHeld => ?_)
    refine wpAnyH_take (i := 0) (v := .pointer (some ⟨M, 0, none⟩)) rfl (by kernel_rfl) (by kernel_rfl) (by kernel_rfl) (fun _ _ _ h => h) (Or.inl ⟨by kernel_rfl, ?_⟩) hHeld ?_
    · intro w' hSw
      have z1 : w'.cell? ⟨pb, 1, none⟩ = some (.int .i64 bl) := hSw.box.cell 1
      go_simp
    refine wpAnyH_take (i := 1) (v := .pointer (some ⟨pb, 1, none⟩)) rfl (by kernel_rfl) (by kernel_rfl) (by kernel_rfl) (fun _ _ _ h => h) (Or.inl ⟨by kernel_rfl, ?_⟩) hHeld ?_
    · intro w' hSw
      have z1 : w'.cell? ⟨pb, 1, none⟩ = some (.int .i64 bl) := hSw.box.cell 1
      go_simp
    refine wpAnyH_take (i := 2) (v := .int .i64 bl) rfl (by kernel_rfl) (by kernel_rfl) (by kernel_rfl) (fun _ _ _ h => h) (Or.inl ⟨by kernel_rfl, ?_⟩) hHeld ?_
    · intro w' hSw
      have z1 : w'.cell? ⟨pb, 1, none⟩ = some (.int .i64 bl) := hSw.box.cell 1
      go_simp
    refine wpAnyH_take (i := 4) (v := .pointer (some ⟨q.d, 0, none⟩)) rfl (by kernel_rfl) (by kernel_rfl) (by kernel_rfl) (fun _ _ _ h => h) (Or.inl ⟨by kernel_rfl, ?_⟩) hHeld ?_
    · intro w' hSw
      have z1 : w'.cell? ⟨pb, 1, none⟩ = some (.int .i64 bl) := hSw.box.cell 1
      go_simp
    refine wpAnyH_take (i := 5) (v := .pointer (some ⟨pb, 1, none⟩)) rfl (by kernel_rfl) (by kernel_rfl) (by kernel_rfl) (fun _ _ _ h => h) (Or.inl ⟨by kernel_rfl, ?_⟩) hHeld ?_
    · intro w' hSw
      have z1 : w'.cell? ⟨pb, 1, none⟩ = some (.int .i64 bl) := hSw.box.cell 1
      go_simp
    refine wpAnyH_take (i := 6) (v := .int .i64 bl) rfl (by kernel_rfl) (by kernel_rfl) (by kernel_rfl) (fun _ _ _ h => h) (Or.inl ⟨by kernel_rfl, ?_⟩) hHeld ?_
    · intro w' hSw
      have z1 : w'.cell? ⟨pb, 1, none⟩ = some (.int .i64 bl) := hSw.box.cell 1
      go_simp
    try simp only [Act.put, List.setIfInBounds_toArray]
    refine wpAnyH_ready (rs := [3]) (by kernel_rfl) (by simp) ?_
    refine AllReadyH.cons rfl (fun K hK => ?_) AllReadyH.nil
    go_simp
    refine (HO.out _ hHeld).mono ?_
    rintro e w2 ⟨⟨x, rfl⟩, hS2⟩
    refine hK.out _ _ hS2 (fun hHeld2 => ?_)
    try simp only [Act.put, List.setIfInBounds_toArray, List.set]
    refine wpAnyH_ready (rs := [7]) (by kernel_rfl) (by simp) ?_
    refine AllReadyH.cons rfl (fun K hK => ?_) AllReadyH.nil
    go_simp
    refine (HR.out _ hHeld2).mono ?_
    rintro e w3 ⟨⟨x2, rfl⟩, hS3⟩
    refine hK.out _ _ hS3 (fun hHeld3 => ?_)
    try simp only [Act.put, List.setIfInBounds_toArray, List.set]
    refine wpAnyH_ready (rs := [8]) (by kernel_rfl) (by simp) ?_
    refine AllReadyH.cons rfl (fun K hK => ?_) AllReadyH.nil
    go_simp
    refine hK.out _ _ hHeld3 (fun _ => ?_)
    try simp only [Act.put, List.setIfInBounds_toArray]
    refine wpAnyH_ready (rs := [9]) (by kernel_rfl) (by simp) ?_
    refine AllReadyH.cons rfl (fun K hK => ?_) AllReadyH.nil
    go_simp
    refine hK.out _ _ hHeld3 (fun _ => ?_)
    refine wpAnyH_done (by kernel_rfl) ?_ _
    go_wp2
    go_ret
    exact HFin.out _ _ hHeld3
  have t3 : (kd == 3) = false := beq_eq_false_iff_ne.2 k3
  by_cases k4 : kd = 4
  · have t4 : (kd == 4) = true := beq_iff_eq.2 k4
    have HO := Lib.hid (fun w2 (hS : PsS w X M m0 o c.nb r q Z pb #[.int .i64 kd, .int .i64 bl, .slice A n cc] w2) => ps_retire bl (HZ.out.r k4) w2 hS)
    have HR := Lib.hid (fun w2 (hS : PsS w X M m0 o c.nb r q Z pb #[.int .i64 kd, .int .i64 bl, .slice A n cc] w2) => ps_rretire bl w2 hS)
    clear k4
    go_upto_region 11 with (fail)
    refine wp_region_held_drew (S := PsS w X M m0 o c.nb r q Z pb #[.int .i64 kd, .int .i64 bl, .slice A n cc]) (by kernel_rfl) (HS0.out.below (Below.refl _ _).drew) (fun hHeld => ?_)
    refine wpAnyH_take (i := 0) (v := .pointer (some ⟨M, 0, none⟩)) rfl (by kernel_rfl) (by kernel_rfl) (by kernel_rfl) (fun _ _ _ h => h) (Or.inl ⟨by kernel_rfl, ?_⟩) hHeld ?_
    · intro w' hSw
      have z1 : w'.cell? ⟨pb, 1, none⟩ = some (.int .i64 bl) := hSw.box.cell 1
      go_simp
    refine wpAnyH_take (i := 1) (v := .pointer (some ⟨pb, 1, none⟩)) rfl (by kernel_rfl) (by kernel_rfl) (by kernel_rfl) (fun _ _ _ h => h) (Or.inl ⟨by kernel_rfl, ?_⟩) hHeld ?_
    · intro w' hSw
      have z1 : w'.cell? ⟨pb, 1, none⟩ = some (.int .i64 bl) := hSw.box.cell 1
      go_simp
    refine wpAnyH_take (i := 2) (v := .int .i64 bl) rfl (by kernel_rfl) (by kernel_rfl) (by kernel_rfl) (fun _ _ _ h => h) (Or.inl ⟨by kernel_rfl, ?_⟩) hHeld ?_
    · intro w' hSw
      have z1 : w'.cell? ⟨pb, 1, none⟩ = some (.int .i64 bl) := hSw.box.cell 1
      go_simp
    refine wpAnyH_take (i := 4) (v := .pointer (some ⟨q.d, 0, none⟩)) rfl (by kernel_rfl) (by kernel_rfl) (by kernel_rfl) (fun _ _ _ h => h) (Or.inl ⟨by kernel_rfl, ?_⟩) hHeld ?_
    · intro w' hSw
      have z1 : w'.cell? ⟨pb, 1, none⟩ = some (.int .i64 bl) := hSw.box.cell 1
      go_simp
    refine wpAnyH_take (i := 5) (v := .pointer (some ⟨pb, 1, none⟩)) rfl (by kernel_rfl) (by kernel_rfl) (by kernel_rfl) (fun _ _ _ h => h) (Or.inl ⟨by kernel_rfl, ?_⟩) hHeld ?_
    · intro w' hSw
      have z1 : w'.cell? ⟨pb, 1, none⟩ = some (.int .i64 bl) := hSw.box.cell 1
      go_simp
    refine wpAnyH_take (i := 6) (v := .int .i64 bl) rfl (by kernel_rfl) (by kernel_rfl) (by kernel_rfl) (fun _ _ _ h => h) (Or.inl ⟨by kernel_rfl, ?_⟩) hHeld ?_
    · intro w' hSw
      have z1 : w'.cell? ⟨pb, 1, none⟩ = some (.int .i64 bl) := hSw.box.cell 1
      go_simp
    try simp only [Act.put, List.setIfInBounds_toArray]
    refine wpAnyH_ready (rs := [3]) (by kernel_rfl) (by simp) ?_
    refine AllReadyH.cons rfl (fun K hK => ?_) AllReadyH.nil
    go_simp
    refine (HO.out _ hHeld).mono ?_
    rintro e w2 ⟨⟨x, rfl⟩, hS2⟩
    refine hK.out _ _ hS2 (fun hHeld2 => ?_)
    try simp only [Act.put, List.setIfInBounds_toArray, List.set]
    refine wpAnyH_ready (rs := [7]) (by kernel_rfl) (by simp) ?_
    refine AllReadyH.cons rfl (fun K hK => ?_) AllReadyH.nil
    go_simp
    refine (HR.out _ hHeld2).mono ?_
    rintro e w3 ⟨⟨x2, rfl⟩, hS3⟩
    refine hK.out _ _ hS3 (fun hHeld3 => ?_)
    try simp only [Act.put, List.setIfInBounds_toArray, List.set]
    refine wpAnyH_ready (rs := [8]) (by kernel_rfl) (by simp) ?_
    refine AllReadyH.cons rfl (fun K hK => ?_) AllReadyH.nil
    go_simp
    refine hK.out _ _ hHeld3 (fun _ => ?_)
    try simp only [Act.put, List.setIfInBounds_toArray]
    refine wpAnyH_ready (rs := [9]) (by kernel_rfl) (by simp) ?_
    refine AllReadyH.cons rfl (fun K hK => ?_) AllReadyH.nil
    go_simp
    refine hK.out _ _ hHeld3 (fun _ => ?_)
    refine wpAnyH_done (by kernel_rfl) ?_ _
    go_wp2
    go_ret
    exact HFin.out _ _ hHeld3
  have t4 : (kd == 4) = false := beq_eq_false_iff_ne.2 k4
  by_cases k5 : kd = 5
  · have t5 : (kd == 5) = true := beq_iff_eq.2 k5
    have HO := Lib.hid (fun w2 (hS : PsS w X M m0 o c.nb r q Z pb #[.int .i64 kd, .int .i64 bl, .slice A n cc] w2) => ps_lose HZ.out.u w2 hS)
    have hop : o.p = .pointer (some ⟨o.bc, 0, none⟩) := rfl
    rw [hop] at HO
    clear hop k5
    go_wp2_with fail
    refine (HO.out _ HS0.out).mono ?_
    rintro e w2 ⟨rfl, hS2⟩
    obtain ⟨zq, ⟨dn, z10⟩, zf, hS3⟩ := ps_down true _ hS2
    have HS3 := Lib.hid hS3
    clear hS2 hS3
    go_wp2
    go_ret
    exact HFin.out _ _ HS3.out
  have t5 : (kd == 5) = false := beq_eq_false_iff_ne.2 k5
  by_cases k6 : kd = 6
  · have t6 : (kd == 6) = true := beq_iff_eq.2 k6
    have HO := Lib.hid (fun w2 (hS : PsS w X M m0 o c.nb r q Z pb #[.int .i64 kd, .int .i64 bl, .slice A n cc] w2) => ps_start HZ.out.u w2 hS)
    have hop : o.p = .pointer (some ⟨o.bc, 0, none⟩) := rfl
    rw [hop] at HO
    clear hop k6
    go_wp2_with fail
    refine (HO.out _ HS0.out).mono ?_
    rintro e w2 ⟨rfl, hS2⟩
    obtain ⟨zq, ⟨dn, z10⟩, zf, hS3⟩ := ps_down false _ hS2
    have HS3 := Lib.hid hS3
    clear hS2 hS3
    go_wp2
    go_ret
    exact HFin.out _ _ HS3.out
  have t6 : (kd == 6) = false := beq_eq_false_iff_ne.2 k6
  go_wp2
  go_ret
  exact HFin.out _ _ HS0.out
end Go.Proofs.YtjjggmopkfkpaaaGreat

/-
  An operation done with a manager and with the document's (made by gen_suplayt.py). Nothing of one statement alone stands here.
-/
namespace Go.Proofs.YtjjggmopkfkpaaaGreat
open Go.RowKit Crcm Gcm Go.ChangeShapes

/-- what an operation makes of what stands of a manager's blocks and its chip -/
structure Zt (Z Z' : List Bk → Ch → Prop) (y : Bo) : Prop where
  d : y.kind = 2 → ∀ l c, l.length = c.nb → Z l c → Z' (dpT y.block l).2 c
  e : y.kind = 3 → ∀ l c, l.length = c.nb → Z l c → Z' (eraT y.block l c).2.1 (eraT y.block l c).2.2
  r : y.kind = 4 → ∀ l c, l.length = c.nb → Z l c → Z' (retT y.block l c).2.1 (retT y.block l c).2.2
  u : ∀ l c u, Z l c → Z' l { c with up := u }
  w : ∀ l c, Z l c → Z' l c
section
variable {w0 : World} {X : Nat → Prop} {M : Nat} {m0 : Mg} {o : Own} {nb : Nat} {r : Rb} {q : Rq} {Z Z' : List Bk → Ch → Prop} {pb : Nat} {cs : Array Value}
theorem PsS.weak {w : World} (h : PsS w0 X M m0 o nb r q Z pb cs w) (hw : ∀ l c, Z l c → Z' l c) : PsS w0 X M m0 o nb r q Z' pb cs w := by
  obtain ⟨l, c, h1, h2, h3⟩ := h.pr
  exact ⟨h.box, h.nx, ⟨l, c, h1, hw l c h2, h3⟩, h.kp⟩
theorem PsS.ownT {w w' : World} {l l' : List Bk} {c c' : Ch} {F : Nat → Prop} (h : PsS w0 X M m0 o nb r q Z pb cs w) (h1 : Pr w X M { m0 with l := l } o c r q) (hm : MgAt w' M { m0 with l := l' }) (hc : ChAt w' X o c') (hk : Kp F w w') (hF : ∀ b, F b → Fm o c.nb m0.g b) (e1 : l'.length = l.length) (e2 : c'.nb = c.nb ∧ c'.np = c.np ∧ c'.sz = c.sz) (hz : Z' l' c') (hn : c.nb = nb) : PsS w0 X M m0 o nb r q Z' pb cs w' := by
  have hk2 := hk.mono hF
  have hp := Pr.own (l' := l') h1 hm hc hk2 e1 e2
  exact ⟨h.box.kp hk2 (fun g => h.nx (h1.fmX _ g)), h.nx, ⟨l', c', hp, hz, e2.1.trans hn⟩, h.kp.trans (hk2.mono (fun _ hb => .inl (by rw [← hn]; exact hb)))⟩
theorem pt_drop (k : Int) (hZ : ∀ l c, l.length = c.nb → Z l c → Z' (dpT k l).2 c) (w : World) (hS : PsS w0 X M m0 o nb r q Z pb cs w) :
    Calls Tryz.prog 11 #[.pointer (some ⟨M, 0, none⟩), .int .i64 k] w fun e w' => (∃ x : Int, e = .returned (.int .i64 x)) ∧ PsS w0 X M m0 o nb r q Z' pb cs w' := by
  obtain ⟨l, c, h1, h2⟩ := hS.pr
  refine (bdrop_any h1.mg k).mono ?_
  rintro e w' ⟨rfl, hm, hk⟩
  exact ⟨⟨_, rfl⟩, hS.ownT h1 hm (h1.ch.kp hk (fun b e => by rw [e]; exact h1.xg) (fun b hb e => h1.og (by have e2 : b = m0.g := e; rw [e2] at hb; exact hb))) hk (fun b e => .inr e) (dpT_len k l) ⟨rfl, rfl, rfl⟩ (hZ l c h1.ln h2.1) h2.2⟩
theorem pt_erase (k : Int) (hZ : ∀ l c, l.length = c.nb → Z l c → Z' (eraT k l c).2.1 (eraT k l c).2.2) (w : World) (hS : PsS w0 X M m0 o nb r q Z pb cs w) :
    Calls Tryz.prog 40 #[.pointer (some ⟨M, 0, none⟩), .int .i64 k] w fun e w' => (∃ x : Int, e = .returned (.int .i64 x)) ∧ PsS w0 X M m0 o nb r q Z' pb cs w' := by
  obtain ⟨l, c, h1, h2⟩ := hS.pr
  refine (bera_any h1.mg h1.ch h1.cp h1.xg h1.oM h1.og k).mono ?_
  rintro e w' ⟨rfl, hm, hc, hk⟩
  have hd := eraT_kd k l c
  exact ⟨⟨_, rfl⟩, hS.ownT h1 hm hc hk (fun b e => e) (eraT_len k l c) ⟨hd.1, hd.2.1, hd.2.2.1⟩ (hZ l c h1.ln h2.1) h2.2⟩
theorem pt_retire (k : Int) (hZ : ∀ l c, l.length = c.nb → Z l c → Z' (retT k l c).2.1 (retT k l c).2.2) (w : World) (hS : PsS w0 X M m0 o nb r q Z pb cs w) :
    Calls Tryz.prog 42 #[.pointer (some ⟨M, 0, none⟩), .int .i64 k] w fun e w' => (∃ x : Int, e = .returned (.int .i64 x)) ∧ PsS w0 X M m0 o nb r q Z' pb cs w' := by
  obtain ⟨l, c, h1, h2⟩ := hS.pr
  refine (bret_any h1.mg h1.ch h1.cp h1.ln h1.xg h1.oM h1.og k).mono ?_
  rintro e w' ⟨rfl, hm, hc, hk⟩
  have hd := retT_kd k l c (fun _ => False)
  exact ⟨⟨_, rfl⟩, hS.ownT h1 hm hc hk (fun b e => e) (retT_len k l c) ⟨hd.1, hd.2.1, hd.2.2.1⟩ (hZ l c h1.ln h2.1) h2.2⟩
theorem pt_lose (hZ : ∀ l c u, Z l c → Z' l { c with up := u }) (w : World) (hS : PsS w0 X M m0 o nb r q Z pb cs w) :
    Calls Tryz.prog 44 #[o.p] w fun e w' => e = .returned (.tuple #[]) ∧ PsS w0 X M m0 o nb r q Z' pb cs w' := by
  obtain ⟨l, c, h1, h2⟩ := hS.pr
  refine (lose_any h1.ch).mono ?_
  rintro e w' ⟨rfl, hc, hk⟩
  exact ⟨rfl, hS.ownT h1 (h1.mg.kp hk h1.oM h1.og) hc hk (fun b e => .inl e) rfl ⟨rfl, rfl, rfl⟩ (hZ l c false h2.1) h2.2⟩
theorem pt_start (hZ : ∀ l c u, Z l c → Z' l { c with up := u }) (w : World) (hS : PsS w0 X M m0 o nb r q Z pb cs w) :
    Calls Tryz.prog 45 #[o.p] w fun e w' => e = .returned (.tuple #[]) ∧ PsS w0 X M m0 o nb r q Z' pb cs w' := by
  obtain ⟨l, c, h1, h2⟩ := hS.pr
  refine (start_any h1.ch).mono ?_
  rintro e w' ⟨rfl, hc, hk⟩
  exact ⟨rfl, hS.ownT h1 (h1.mg.kp hk h1.oM h1.og) hc hk (fun b e => .inl e) rfl ⟨rfl, rfl, rfl⟩ (hZ l c true h2.1) h2.2⟩
end

set_option maxRecDepth 100000 in
set_option maxHeartbeats 4000000 in
theorem splayt_any {w : World} {X : Nat → Prop} {M : Nat} {m0 : Mg} {o : Own} {c : Ch} {r : Rb} {q : Rq} {Z Z' : List Bk → Ch → Prop} (h : Pr w X M m0 o c r q) (hz : Z m0.l c) (y : Bo) (hZ : Zt Z Z' y) (h1 : y.kind ≠ 1) (A : Option Addr) (n cc : Nat) :
    Calls Tryz.prog 13 #[.pointer (some ⟨M, 0, none⟩), o.p, .pointer (some ⟨q.d, 0, none⟩), .agg #[.int .i64 y.kind, .int .i64 y.block, .slice A n cc]] w fun e w' =>
      (∃ t : Bool, e = .returned (.bool t)) ∧ (∃ l c', Pr w' X M { m0 with l := l } o c' r q ∧ Z' l c' ∧ c'.nb = c.nb) ∧ Kp (Qm o c.nb m0.g r q) w w' := by
  obtain ⟨kd, bl, bs⟩ := y
  dsimp only at h1 ⊢
  have hal := (Below.refl w.heap.size w).alloc (Nat.le_refl _) (.cells #[.int .i64 kd, .int .i64 bl, .slice A n cc] 42)
  have HS0 : Hid (PsS w X M m0 o c.nb r q Z w.heap.size #[.int .i64 kd, .int .i64 bl, .slice A n cc] (w.alloc (.cells #[.int .i64 kd, .int .i64 bl, .slice A n cc] 42))) := Lib.hid ⟨Blk.new w _ _, fun g => by have := h.ch.old _ g; omega, ⟨m0.l, c, h.below hal, hz, rfl⟩, Kp.of_below hal⟩
  have HZ := Lib.hid hZ
  have HFin : Hid (∀ t w', PsS w X M m0 o c.nb r q Z' w.heap.size #[.int .i64 kd, .int .i64 bl, .slice A n cc] w' → (∃ t' : Bool, Ending.returned (.bool t) = .returned (.bool t')) ∧ (∃ l c', Pr w' X M { m0 with l := l } o c' r q ∧ Z' l c' ∧ c'.nb = c.nb) ∧ Kp (Qm o c.nb m0.g r q) w w') := Lib.hid fun t w' hS => ⟨⟨t, rfl⟩, hS.pr, hS.kp⟩
  have hop : o.p = .pointer (some ⟨o.bc, 0, none⟩) := rfl
  rw [hop]
  have t1 : (kd == 1) = false := beq_eq_false_iff_ne.2 h1
  clear h hz hZ h1 hal hop
  go_enter Tryz.func13, Tryz.ntmps13
  go_upto_region 1 with (fail)
  generalize (w.alloc (.cells #[.int .i64 kd, .int .i64 bl, .slice A n cc] 42)) = w1 at HS0 ⊢
  generalize w.heap.size = pb at HS0 HFin ⊢
  have z0 : w1.cell? ⟨pb, 0, none⟩ = some (.int .i64 kd) := HS0.out.box.cell 0
  by_cases k2 : kd = 2
  · have t2 : (kd == 2) = true := beq_iff_eq.2 k2
    have HO := Lib.hid (fun w2 (hS : PsS w X M m0 o c.nb r q Z pb #[.int .i64 kd, .int .i64 bl, .slice A n cc] w2) => pt_drop bl (HZ.out.d k2) w2 hS)
    have HR := Lib.hid (fun w2 (hS : PsS w X M m0 o c.nb r q Z' pb #[.int .i64 kd, .int .i64 bl, .slice A n cc] w2) => ps_rdrop bl w2 hS)
    clear k2
    go_upto_region 7 with (fail)
    refine wp_region_held_drew (S := PsS w X M m0 o c.nb r q Z' pb #[.int .i64 kd, .int .i64 bl, .slice A n cc]) (by kernel_rfl) ((HS0.out.below (Below.refl _ _).drew).weak HZ.out.w) (fun hHeld => ?_)
    refine wpAnyH_take (i := 0) (v := .pointer (some ⟨M, 0, none⟩)) rfl (by kernel_rfl) (by kernel_rfl) (by kernel_rfl) (fun _ _ _ h => h) (Or.inl ⟨by kernel_rfl, ?_⟩) hHeld ?_
    · intro w' hSw
      have z1 : w'.cell? ⟨pb, 1, none⟩ = some (.int .i64 bl) := hSw.box.cell 1
      go_simp
    refine wpAnyH_take (i := 1) (v := .pointer (some ⟨pb, 1, none⟩)) rfl (by kernel_rfl) (by kernel_rfl) (by kernel_rfl) (fun _ _ _ h => h) (Or.inl ⟨by kernel_rfl, ?_⟩) hHeld ?_
    · intro w' hSw
      have z1 : w'.cell? ⟨pb, 1, none⟩ = some (.int .i64 bl) := hSw.box.cell 1
      go_simp
    refine wpAnyH_take (i := 2) (v := .int .i64 bl) rfl (by kernel_rfl) (by kernel_rfl) (by kernel_rfl) (fun _ _ _ h => h) (Or.inl ⟨by kernel_rfl, ?_⟩) hHeld ?_
    · intro w' hSw
      have z1 : w'.cell? ⟨pb, 1, none⟩ = some (.int .i64 bl) := hSw.box.cell 1
      go_simp
    refine wpAnyH_take (i := 4) (v := .pointer (some ⟨q.d, 0, none⟩)) rfl (by kernel_rfl) (by kernel_rfl) (by kernel_rfl) (fun _ _ _ h => h) (Or.inl ⟨by kernel_rfl, ?_⟩) hHeld ?_
    · intro w' hSw
      have z1 : w'.cell? ⟨pb, 1, none⟩ = some (.int .i64 bl) := hSw.box.cell 1
      go_simp
    refine wpAnyH_take (i := 5) (v := .pointer (some ⟨pb, 1, none⟩)) rfl (by kernel_rfl) (by kernel_rfl) (by kernel_rfl) (fun _ _ _ h => h) (Or.inl ⟨by kernel_rfl, ?_⟩) hHeld ?_
    · intro w' hSw
      have z1 : w'.cell? ⟨pb, 1, none⟩ = some (.int .i64 bl) := hSw.box.cell 1
      go_simp
    refine wpAnyH_take (i := 6) (v := .int .i64 bl) rfl (by kernel_rfl) (by kernel_rfl) (by kernel_rfl) (fun _ _ _ h => h) (Or.inl ⟨by kernel_rfl, ?_⟩) hHeld ?_
    · intro w' hSw
      have z1 : w'.cell? ⟨pb, 1, none⟩ = some (.int .i64 bl) := hSw.box.cell 1
      go_simp
    try simp only [Act.put, List.setIfInBounds_toArray]
    refine wpAnyH_ready (rs := [3]) (by kernel_rfl) (by simp) ?_
    refine AllReadyH.cons rfl (fun K hK => ?_) AllReadyH.nil
    go_simp
    refine (HO.out _ (HS0.out.below (Below.refl _ _).drew)).mono ?_
    rintro e w2 ⟨⟨x, rfl⟩, hS2⟩
    refine hK.out _ _ hS2 (fun hHeld2 => ?_)
    try simp only [Act.put, List.setIfInBounds_toArray, List.set]
    refine wpAnyH_ready (rs := [7]) (by kernel_rfl) (by simp) ?_
    refine AllReadyH.cons rfl (fun K hK => ?_) AllReadyH.nil
    go_simp
    refine (HR.out _ hHeld2).mono ?_
    rintro e w3 ⟨⟨x2, rfl⟩, hS3⟩
    refine hK.out _ _ hS3 (fun hHeld3 => ?_)
    try simp only [Act.put, List.setIfInBounds_toArray, List.set]
    refine wpAnyH_ready (rs := [8]) (by kernel_rfl) (by simp) ?_
    refine AllReadyH.cons rfl (fun K hK => ?_) AllReadyH.nil
    go_simp
    refine hK.out _ _ hHeld3 (fun _ => ?_)
    try simp only [Act.put, List.setIfInBounds_toArray]
    refine wpAnyH_ready (rs := [9]) (by kernel_rfl) (by simp) ?_
    refine AllReadyH.cons rfl (fun K hK => ?_) AllReadyH.nil
    go_simp
    refine hK.out _ _ hHeld3 (fun _ => ?_)
    refine wpAnyH_done (by kernel_rfl) ?_ _
    go_wp2
    go_ret
    exact HFin.out _ _ hHeld3
  have t2 : (kd == 2) = false := beq_eq_false_iff_ne.2 k2
  by_cases k3 : kd = 3
  · have t3 : (kd == 3) = true := beq_iff_eq.2 k3
    have HO := Lib.hid (fun w2 (hS : PsS w X M m0 o c.nb r q Z pb #[.int .i64 kd, .int .i64 bl, .slice A n cc] w2) => pt_erase bl (HZ.out.e k3) w2 hS)
    have HR := Lib.hid (fun w2 (hS : PsS w X M m0 o c.nb r q Z' pb #[.int .i64 kd, .int .i64 bl, .slice A n cc] w2) => ps_rerase bl w2 hS)
    clear k3
    go_upto_region 9 with (fail)
    refine wp_region_held_drew (S := PsS w X M m0 o c.nb r q Z' pb #[.int .i64 kd, .int .i64 bl, .slice A n cc]) (by kernel_rfl) ((HS0.out.below (Below.refl _ _).drew).weak HZ.out.w) (fun hHeld => ?_)
    refine wpAnyH_take (i := 0) (v := .pointer (some ⟨M, 0, none⟩)) rfl (by kernel_rfl) (by kernel_rfl) (by kernel_rfl) (fun _ _ _ h => h) (Or.inl ⟨by kernel_rfl, ?_⟩) hHeld ?_
    · intro w' hSw
      have z1 : w'.cell? ⟨pb, 1, none⟩ = some (.int .i64 bl) := hSw.box.cell 1
      go_simp
    refine wpAnyH_take (i := 1) (v := .pointer (some ⟨pb, 1, none⟩)) rfl (by kernel_rfl) (by kernel_rfl) (by kernel_rfl) (fun _ _ _ h => h) (Or.inl ⟨by kernel_rfl, ?_⟩) hHeld ?_
    · intro w' hSw
      have z1 : w'.cell? ⟨pb, 1, none⟩ = some (.int .i64 bl) := hSw.box.cell 1
      go_simp
    refine wpAnyH_take (i := 2) (v := .int .i64 bl) rfl (by kernel_rfl) (by kernel_rfl) (by kernel_rfl) (fun _ _ _ h => h) (Or.inl ⟨by kernel_rfl, ?_⟩) hHeld ?_
    · intro w' hSw
      have z1 : w'.cell? ⟨pb, 1, none⟩ = some (.int .i64 bl) := hSw.box.cell 1
      go_simp
    refine wpAnyH_take (i := 4) (v := .pointer (some ⟨q.d, 0, none⟩)) rfl (by kernel_rfl) (by kernel_rfl) (by kernel_rfl) (fun _ _ _ h => h) (Or.inl ⟨by kernel_rfl, ?_⟩) hHeld ?_
    · intro w' hSw
      have z1 : w'.cell? ⟨pb, 1, none⟩ = some (.int .i64 bl) := hSw.box.cell 1
      go_simp
    refine wpAnyH_take (i := 5) (v := .pointer (some ⟨pb, 1, none⟩)) rfl (by kernel_rfl) (by kernel_rfl) (by kernel_rfl) (fun _ _ _ h => h) (Or.inl ⟨by kernel_rfl, ?_⟩) hHeld ?_
    · intro w' hSw
      have z1 : w'.cell? ⟨pb, 1, none⟩ = some (.int .i64 bl) := hSw.box.cell 1
      go_simp
    refine wpAnyH_take (i := 6) (v := .int .i64 bl) rfl (by kernel_rfl) (by kernel_rfl) (by kernel_rfl) (fun _ _ _ h => h) (Or.inl ⟨by kernel_rfl, ?_⟩) hHeld ?_
    · intro w' hSw
      have z1 : w'.cell? ⟨pb, 1, none⟩ = some (.int .i64 bl) := hSw.box.cell 1
      go_simp
    try simp only [Act.put, List.setIfInBounds_toArray]
    refine wpAnyH_ready (rs := [3]) (by kernel_rfl) (by simp) ?_
    refine AllReadyH.cons rfl (fun K hK => ?_) AllReadyH.nil
    go_simp
    refine (HO.out _ (HS0.out.below (Below.refl _ _).drew)).mono ?_
    rintro e w2 ⟨⟨x, rfl⟩, hS2⟩
    refine hK.out _ _ hS2 (fun hHeld2 => ?_)
    try simp only [Act.put, List.setIfInBounds_toArray, List.set]
    refine wpAnyH_ready (rs := [7]) (by kernel_rfl) (by simp) ?_
    refine AllReadyH.cons rfl (fun K hK => ?_) AllReadyH.nil
    go_simp
    refine (HR.out _ hHeld2).mono ?_
    rintro e w3 ⟨⟨x2, rfl⟩, hS3⟩
    refine hK.out _ _ hS3 (fun hHeld3 => ?_)
    try simp only [Act.put, List.setIfInBounds_toArray, List.set]
    refine wpAnyH_ready (rs := [8]) (by kernel_rfl) (by simp) ?_
    refine AllReadyH.cons rfl (fun K hK => ?_) AllReadyH.nil
    go_simp
    refine hK.out _ _ hHeld3 (fun _ => ?_)
    try simp only [Act.put, List.setIfInBounds_toArray]
    refine wpAnyH_ready (rs := [9]) (by kernel_rfl) (by simp) ?_
    refine AllReadyH.cons rfl (fun K hK => ?_) AllReadyH.nil
    go_simp
    refine hK.out _ _ hHeld3 (fun _ => ?_)
    refine wpAnyH_done (by kernel_rfl) ?_ _
    go_wp2
    go_ret
    exact HFin.out _ _ hHeld3
  have t3 : (kd == 3) = false := beq_eq_false_iff_ne.2 k3
  by_cases k4 : kd = 4
  · have t4 : (kd == 4) = true := beq_iff_eq.2 k4
    have HO := Lib.hid (fun w2 (hS : PsS w X M m0 o c.nb r q Z pb #[.int .i64 kd, .int .i64 bl, .slice A n cc] w2) => pt_retire bl (HZ.out.r k4) w2 hS)
    have HR := Lib.hid (fun w2 (hS : PsS w X M m0 o c.nb r q Z' pb #[.int .i64 kd, .int .i64 bl, .slice A n cc] w2) => ps_rretire bl w2 hS)
    clear k4
    go_upto_region 11 with (fail)
    refine wp_region_held_drew (S := PsS w X M m0 o c.nb r q Z' pb #[.int .i64 kd, .int .i64 bl, .slice A n cc]) (by kernel_rfl) ((HS0.out.below (Below.refl _ _).drew).weak HZ.out.w) (fun hHeld => ?_)
    refine wpAnyH_take (i := 0) (v := .pointer (some ⟨M, 0, none⟩)) rfl (by kernel_rfl) (by kernel_rfl) (by kernel_rfl) (fun _ _ _ h => h) (Or.inl ⟨by kernel_rfl, ?_⟩) hHeld ?_
    · intro w' hSw
      have z1 : w'.cell? ⟨pb, 1, none⟩ = some (.int .i64 bl) := hSw.box.cell 1
      go_simp
    refine wpAnyH_take (i := 1) (v := .pointer (some ⟨pb, 1, none⟩)) rfl (by kernel_rfl) (by kernel_rfl) (by kernel_rfl) (fun _ _ _ h => h) (Or.inl ⟨by kernel_rfl, ?_⟩) hHeld ?_
    · intro w' hSw
      have z1 : w'.cell? ⟨pb, 1, none⟩ = some (.int .i64 bl) := hSw.box.cell 1
      go_simp
    refine wpAnyH_take (i := 2) (v := .int .i64 bl) rfl (by kernel_rfl) (by kernel_rfl) (by kernel_rfl) (fun _ _ _ h => h) (Or.inl ⟨by kernel_rfl, ?_⟩) hHeld ?_
    · intro w' hSw
      have z1 : w'.cell? ⟨pb, 1, none⟩ = some (.int .i64 bl) := hSw.box.cell 1
      go_simp
    refine wpAnyH_take (i := 4) (v := .pointer (some ⟨q.d, 0, none⟩)) rfl (by kernel_rfl) (by kernel_rfl) (by kernel_rfl) (fun _ _ _ h => h) (Or.inl ⟨by kernel_rfl, ?_⟩) hHeld ?_
    · intro w' hSw
      have z1 : w'.cell? ⟨pb, 1, none⟩ = some (.int .i64 bl) := hSw.box.cell 1
      go_simp
    refine wpAnyH_take (i := 5) (v := .pointer (some ⟨pb, 1, none⟩)) rfl (by kernel_rfl) (by kernel_rfl) (by kernel_rfl) (fun _ _ _ h => h) (Or.inl ⟨by kernel_rfl, ?_⟩) hHeld ?_
    · intro w' hSw
      have z1 : w'.cell? ⟨pb, 1, none⟩ = some (.int .i64 bl) := hSw.box.cell 1
      go_simp
    refine wpAnyH_take (i := 6) (v := .int .i64 bl) rfl (by kernel_rfl) (by kernel_rfl) (by kernel_rfl) (fun _ _ _ h => h) (Or.inl ⟨by kernel_rfl, ?_⟩) hHeld ?_
    · intro w' hSw
      have z1 : w'.cell? ⟨pb, 1, none⟩ = some (.int .i64 bl) := hSw.box.cell 1
      go_simp
    try simp only [Act.put, List.setIfInBounds_toArray]
    refine wpAnyH_ready (rs := [3]) (by kernel_rfl) (by simp) ?_
    refine AllReadyH.cons rfl (fun K hK => ?_) AllReadyH.nil
    go_simp
    refine (HO.out _ (HS0.out.below (Below.refl _ _).drew)).mono ?_
    rintro e w2 ⟨⟨x, rfl⟩, hS2⟩
    refine hK.out _ _ hS2 (fun hHeld2 => ?_)
    try simp only [Act.put, List.setIfInBounds_toArray, List.set]
    refine wpAnyH_ready (rs := [7]) (by kernel_rfl) (by simp) ?_
    refine AllReadyH.cons rfl (fun K hK => ?_) AllReadyH.nil
    go_simp
    refine (HR.out _ hHeld2).mono ?_
    rintro e w3 ⟨⟨x2, rfl⟩, hS3⟩
    refine hK.out _ _ hS3 (fun hHeld3 => ?_)
    try simp only [Act.put, List.setIfInBounds_toArray, List.set]
    refine wpAnyH_ready (rs := [8]) (by kernel_rfl) (by simp) ?_
    refine AllReadyH.cons rfl (fun K hK => ?_) AllReadyH.nil
    go_simp
    refine hK.out _ _ hHeld3 (fun _ => ?_)
    try simp only [Act.put, List.setIfInBounds_toArray]
    refine wpAnyH_ready (rs := [9]) (by kernel_rfl) (by simp) ?_
    refine AllReadyH.cons rfl (fun K hK => ?_) AllReadyH.nil
    go_simp
    refine hK.out _ _ hHeld3 (fun _ => ?_)
    refine wpAnyH_done (by kernel_rfl) ?_ _
    go_wp2
    go_ret
    exact HFin.out _ _ hHeld3
  have t4 : (kd == 4) = false := beq_eq_false_iff_ne.2 k4
  by_cases k5 : kd = 5
  · have t5 : (kd == 5) = true := beq_iff_eq.2 k5
    have HO := Lib.hid (fun w2 (hS : PsS w X M m0 o c.nb r q Z pb #[.int .i64 kd, .int .i64 bl, .slice A n cc] w2) => pt_lose HZ.out.u w2 hS)
    have hop : o.p = .pointer (some ⟨o.bc, 0, none⟩) := rfl
    rw [hop] at HO
    clear hop k5
    go_wp2_with fail
    refine (HO.out _ HS0.out).mono ?_
    rintro e w2 ⟨rfl, hS2⟩
    obtain ⟨zq, ⟨dn, z10⟩, zf, hS3⟩ := ps_down true _ hS2
    have HS3 := Lib.hid hS3
    clear hS2 hS3
    go_wp2
    go_ret
    exact HFin.out _ _ HS3.out
  have t5 : (kd == 5) = false := beq_eq_false_iff_ne.2 k5
  by_cases k6 : kd = 6
  · have t6 : (kd == 6) = true := beq_iff_eq.2 k6
    have HO := Lib.hid (fun w2 (hS : PsS w X M m0 o c.nb r q Z pb #[.int .i64 kd, .int .i64 bl, .slice A n cc] w2) => pt_start HZ.out.u w2 hS)
    have hop : o.p = .pointer (some ⟨o.bc, 0, none⟩) := rfl
    rw [hop] at HO
    clear hop k6
    go_wp2_with fail
    refine (HO.out _ HS0.out).mono ?_
    rintro e w2 ⟨rfl, hS2⟩
    obtain ⟨zq, ⟨dn, z10⟩, zf, hS3⟩ := ps_down false _ hS2
    have HS3 := Lib.hid hS3
    clear hS2 hS3
    go_wp2
    go_ret
    exact HFin.out _ _ HS3.out
  have t6 : (kd == 6) = false := beq_eq_false_iff_ne.2 k6
  go_wp2
  go_ret
  exact HFin.out _ _ (HS0.out.weak HZ.out.w)
end Go.Proofs.YtjjggmopkfkpaaaGreat
