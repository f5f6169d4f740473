/-
  The program's calls on a chip, each whole: what is answered, what is kept, and when nothing has turned.
-/
import Derived.Test.YtiaaeiefgnoiaaaNandScript
import Derived.Test.YtiaaeiefgnoiaaaNandDo
namespace Go.Proofs.Ytiaaeiefgnoiaaa
open Go.RowKit Crcm Go.ChangeShapes

/-- three things -/
structure K3 (A B C : Prop) : Prop where
  a : A
  b : B
  c : C
/-- faults that are few and short -/
def Fw (c : Ch) : Prop := c.fl.length ≤ 20000 ∧ ∀ f ∈ c.fl, f.data.length ≤ 20000
/-- a later chip has what was programmed in the blocks that are not of P; its faults are few if they were -/
def Kd (c c' : Ch) (P : Nat → Prop) : Prop := K3 (c'.nb = c.nb) (c'.np = c.np ∧ c'.sz = c.sz ∧ ∀ k i l, ¬ P k → c.pg k i = some l → c'.pg k i = some l) (Fw c → Fw c')
theorem Kd.refl (c : Ch) (P : Nat → Prop) : Kd c c P := ⟨rfl, ⟨rfl, rfl, fun _ _ _ _ h => h⟩, id⟩
theorem Kd.trans {a b c : Ch} {P : Nat → Prop} (h : Kd a b P) (k : Kd b c P) : Kd a c P := ⟨k.1.trans h.1, ⟨k.2.1.trans h.2.1, k.2.2.1.trans h.2.2.1, fun j i l hp hg => k.2.2.2 j i l hp (h.2.2.2 j i l hp hg)⟩, fun f => k.3 (h.3 f)⟩
theorem Kd.mono {a b : Ch} {P Q : Nat → Prop} (h : Kd a b P) (hq : ∀ k, P k → Q k) : Kd a b Q := ⟨h.1, ⟨h.2.1, h.2.2.1, fun k i l hp => h.2.2.2 k i l fun g => hp (hq k g)⟩, h.3⟩
theorem Kd.same {c c' : Ch} (h1 : c'.nb = c.nb) (h2 : c'.np = c.np) (h3 : c'.sz = c.sz) (h4 : c'.pg = c.pg) (P : Nat → Prop) (h5 : c'.fl = c.fl := by rfl) : Kd c c' P := ⟨h1, ⟨h2, h3, fun k i l _ h => by rw [h4]; exact h⟩, fun f => by unfold Fw at f ⊢; rw [h5]; exact f⟩
theorem Kd.endC {c c' : Ch} {P : Nat → Prop} (h : Kd c c' P) (k : Int) : Kd c (Go.Proofs.Ytiaaeiefgnoiaaa.endC k c') P := by
  unfold Go.Proofs.Ytiaaeiefgnoiaaa.endC
  split
  · exact h
  · exact h
/-- what a call that answers a number comes to -/
def GQ (w : World) (X : Nat → Prop) (o : Own) (c : Ch) (P : Nat → Prop) (e : Ending) (w' : World) : Prop :=
  ∃ (x : Int) (c' : Ch), e = .returned (.int .i64 x) ∧ ChAt w' X o c' ∧ Kp (o.F c.nb) w w' ∧ Kd c c' P ∧ (c' = c ∧ Below w.heap.size w w' ∨ x = 0 ∨ x = 11 ∨ x = 4 ∧ c.up = true)

theorem nx_none (f : Nat → Option (List Int)) : ∀ n i, nx f n ≤ i → i < n → f i = none := by
  intro n
  induction n with
  | zero => intro i _ h; omega
  | succ n ih =>
    intro i h1 h2
    rw [nx] at h1
    split at h1
    · omega
    · rename_i hn
      by_cases e : i = n
      · subst e
        cases hf : f i with
        | none => rfl
        | some l => rw [hf] at hn; exact absurd rfl hn
      · exact ih i h1 (by omega)
theorem endE_say (k : Int) : endE k = 0 ∨ endE k = 11 ∨ endE k = 4 := by
  unfold endE
  split
  · exact .inr (.inr rfl)
  · split
    · exact .inr (.inl rfl)
    · exact .inl rfl
theorem up2_kd {c c' : Ch} {k i : Nat} (h1 : c'.nb = c.nb) (h2 : c'.np = c.np) (h3 : c'.sz = c.sz) (h4 : ∃ p : Option (List Int), c'.pg = up2 c.pg k i p) (hn : c.pg k i = none) (P : Nat → Prop) (h5 : c'.fl = c.fl) : Kd c c' P := ⟨h1, ⟨h2, h3, fun k' i' l _ h => by
  obtain ⟨p, h4⟩ := h4
  rw [h4]
  unfold up2
  by_cases e : k' = k
  · subst e
    rw [up1_at]
    by_cases e2 : i' = i
    · subst e2; rw [hn] at h; cases h
    · rw [up1_ne _ _ e2]; exact h
  · rw [up1_ne _ _ e]; exact h⟩, fun f => by unfold Fw at f ⊢; rw [h5]; exact f⟩
theorem up1_kd {c c' : Ch} {k : Nat} (h1 : c'.nb = c.nb) (h2 : c'.np = c.np) (h3 : c'.sz = c.sz) (h4 : ∃ f : Nat → Option (List Int), c'.pg = up1 c.pg k f) (h5 : c'.fl = c.fl) : Kd c c' (fun j => j = k) := ⟨h1, ⟨h2, h3, fun k' i' l hp h => by
  obtain ⟨f, h4⟩ := h4
  rw [h4, up1_ne _ _ hp]
  exact h⟩, fun f => by unfold Fw at f ⊢; rw [h5]; exact f⟩
theorem prC_kd {c : Ch} {k page : Nat} (l : List Int) (hn : c.pg k page = none) (P : Nat → Prop) : Kd c (prC c k page l) P := by
  unfold prC
  refine Kd.endC ?_ _
  split
  · exact Kd.same rfl rfl rfl rfl P
  · split
    · refine up2_kd ?_ ?_ ?_ ?_ hn P ?_
      · rfl
      · rfl
      · rfl
      · exact ⟨_, rfl⟩
      · rfl
    · refine up2_kd ?_ ?_ ?_ ?_ hn P ?_
      · rfl
      · rfl
      · rfl
      · exact ⟨_, rfl⟩
      · rfl
theorem erD_kd (c : Ch) (k : Nat) : Kd c (erD c k) (fun j => j = k) := by
  unfold erD
  refine Kd.endC ?_ _
  split
  · exact Kd.same rfl rfl rfl rfl _
  · split
    · refine up1_kd ?_ ?_ ?_ ?_ ?_
      · rfl
      · rfl
      · rfl
      · exact ⟨_, rfl⟩
      · rfl
    · refine up1_kd ?_ ?_ ?_ ?_ ?_
      · rfl
      · rfl
      · rfl
      · exact ⟨_, rfl⟩
      · rfl

theorem gprog_all {w : World} {X : Nat → Prop} {o : Own} {c : Ch} (h : ChAt w X o c) (k page : Int) (A : Option Addr) (m cap : Nat) (l : List Int) (hr : RwX w X A l) (hl : l.length = m) (P : Nat → Prop) :
    Calls Try.prog 22 #[o.p, .int .i64 k, .int .i64 page, .slice A m cap] w (GQ w X o c P) := by
  by_cases he : prE c k page m = 0
  · obtain ⟨h1, h2, h3, h4, h5⟩ := prE_zero he
    obtain ⟨r1, r2, r3⟩ := rpE_zero h1
    obtain ⟨s1, s2, s3⟩ := reE_zero r1
    obtain ⟨k, rfl⟩ : ∃ n : Nat, k = n := ⟨k.toNat, by omega⟩
    obtain ⟨page, rfl⟩ : ∃ n : Nat, page = n := ⟨page.toNat, by omega⟩
    rw [Int.toNat_natCast, Int.toNat_natCast] at h5
    subst h2
    have hn := nx_none (c.pg k) c.np page (by omega) (by omega)
    refine (program_yes h k page A cap l hr hl he).mono ?_
    rintro e w' ⟨rfl, hc, hk⟩
    refine ⟨_, _, rfl, hc, hk, prC_kd l hn P, .inr ?_⟩
    rcases endE_say (fnd c.fl c.since).kind with e | e | e
    · exact .inl e
    · exact .inr (.inl e)
    · exact .inr (.inr ⟨e, s1⟩)
  · refine (program_no h k page A m cap (by have := hr.1.2.1; omega) he).mono ?_
    rintro e w' ⟨rfl, rfl⟩
    exact ⟨_, c, rfl, h, Kp.refl _ _, Kd.refl _ _, .inl ⟨rfl, Below.refl _ _⟩⟩
theorem gerase_all {w : World} {X : Nat → Prop} {o : Own} {c : Ch} (h : ChAt w X o c) (k : Int) :
    Calls Try.prog 23 #[o.p, .int .i64 k] w (GQ w X o c (fun j => (j : Int) = k)) := by
  by_cases he : erE c k = 0
  · have h0 : reE c k = 0 := by
      unfold erE at he
      split at he
      · assumption
      · exact absurd he (by assumption)
    obtain ⟨s1, s2, s3⟩ := reE_zero h0
    obtain ⟨k, rfl⟩ : ∃ n : Nat, k = n := ⟨k.toNat, by omega⟩
    refine (erase_yes h k he).mono ?_
    rintro e w' ⟨rfl, hc, hk⟩
    refine ⟨_, _, rfl, hc, hk, (erD_kd c k).mono (fun j e => by rw [e]), .inr ?_⟩
    rcases endE_say (fnd c.fl c.since).kind with e | e | e
    · exact .inl e
    · exact .inr (.inl e)
    · exact .inr (.inr ⟨e, s1⟩)
  · refine (erase_no h k he).mono ?_
    rintro e w' ⟨rfl, rfl⟩
    exact ⟨_, c, rfl, h, Kp.refl _ _, Kd.refl _ _, .inl ⟨rfl, Below.refl _ _⟩⟩
theorem gmark_all {w : World} {X : Nat → Prop} {o : Own} {c : Ch} (h : ChAt w X o c) (k : Int) (P : Nat → Prop) :
    Calls Try.prog 24 #[o.p, .int .i64 k] w (GQ w X o c P) := by
  by_cases he : reE c k = 0
  · obtain ⟨s1, s2, s3⟩ := reE_zero he
    obtain ⟨k, rfl⟩ : ∃ n : Nat, k = n := ⟨k.toNat, by omega⟩
    refine (mark_yes h k he).mono ?_
    rintro e w' ⟨rfl, hc, hk⟩
    exact ⟨_, _, rfl, hc, hk, Kd.same rfl rfl rfl rfl P, .inr (.inl rfl)⟩
  · refine (mark_no h k he).mono ?_
    rintro e w' ⟨rfl, rfl⟩
    exact ⟨_, c, rfl, h, Kp.refl _ _, Kd.refl _ _, .inl ⟨rfl, Below.refl _ _⟩⟩

set_option maxRecDepth 100000 in
set_option maxHeartbeats 2000000 in
/-- a fault that stands ahead of all: nothing is set -/
theorem script_no {w : World} {X : Nat → Prop} (a : Option Addr) (n cap : Nat) (fl : List Fl) (hf : FlAt w X (.slice a n cap) fl) (hn : fl.length = n) (hat : ¬ ∀ f ∈ fl, 0 ≤ f.at') (bc : Nat) :
    Calls Try.prog 25 #[.pointer (some ⟨bc, 0, none⟩), .slice a n cap] w fun e w' => e = .returned (.int .i64 1) ∧ Below w.heap.size w w' := by
  have HF := Lib.hid hf
  have HN := Lib.hid hn
  have n1 : n ≤ 9223372036854775807 := by
    obtain ⟨_, _, _, hm, -⟩ := hf
    unfold maxLen at hm
    omega
  have HAt := Lib.hid hat
  clear hf hn hat
  go_enter Try.func25, Try.ntmps25
  go_wp2_with fail
  go_loopw [11] (fun i wr => ∃ k : Nat, k ≤ n ∧ i = .int .i64 k ∧ Hid (∀ j (hj : j < fl.length), j < k → 0 ≤ fl[j].at') ∧ Hid (Below w.heap.size w wr)) (fun i _ => n - (intOf i).toNat)
  case atStart => exact ⟨0, Nat.zero_le _, rfl, Lib.hid (fun j _ h => absurd h (Nat.not_lt_zero _)), Lib.hid (Below.refl _ _)⟩
  case round =>
    obtain ⟨k, hkn, rfl, hA, hB⟩ := hrel
    by_cases hlt : k < n
    · have hlt' : (k : Int) < (n : Int) := by omega
      have hkl : k < fl.length := by rw [HN.out]; exact hlt
      obtain ⟨a', cap', ev, -, hf3⟩ := HF.out
      injection ev with e1 e2 e3
      subst e1 e3
      clear e2
      rcases hf3 with rfl | ⟨b, off, rfl, hxb, hf3⟩
      · simp at hkl
      obtain ⟨c0, c1, da, dc, c2, -, -⟩ := hf3 k hkl
      have hbs := hB.out
      have d0 := (hbs.cell (block_lt_of_cell c0)).trans c0
      have d1 := (hbs.cell (block_lt_of_cell c1)).trans c1
      have d2 := (hbs.cell (block_lt_of_cell c2)).trans c2
      clear c0 c1 c2
      have HNx : Hid (0 ≤ fl[k].at' → ∀ j (hj : j < fl.length), j < k + 1 → 0 ≤ fl[j].at') := Lib.hid fun h j hj hk => by
        by_cases e : j = k
        · subst e; exact h
        · exact hA.out j hj (by omega)
      obtain ⟨f, hfk⟩ : ∃ f, fl[k] = f := ⟨_, rfl⟩
      rw [hfk] at d0 d1 d2 HNx
      obtain ⟨at0, kd, dl⟩ := f
      dsimp only at d0 d1 d2 HNx
      clear hfk hf3 hkl
      have HB2 := Lib.hid (hB.out.alloc hB.out.size (.cells #[.int .i64 at0, .int .i64 kd, .slice da dl.length dc] 66))
      clear hbs
      by_cases hz : at0 < 0
      · go_wp2
        go_ret
        exact ⟨rfl, HB2.out⟩
      · have HN2 := Lib.hid (HNx.out (by omega))
        clear HNx
        go_wp2
        go_roundw
        case rel => exact ⟨k + 1, by omega, by go_num, HN2, HB2⟩
        case measure => simp [intOf]; omega
    · exfalso
      apply HAt.out
      intro f hf
      obtain ⟨j, hj, rfl⟩ := List.getElem_of_mem hf
      exact hA.out j hj (by have := HN.out; omega)
theorem gscript_all {w : World} {X : Nat → Prop} {o : Own} {c : Ch} (h : ChAt w X o c) (a : Option Addr) (n cap : Nat) (fl : List Fl) (hf : FlAt w X (.slice a n cap) fl) (hn : fl.length = n) (hn2 : n ≤ 20000) (hd : ∀ f ∈ fl, f.data.length ≤ 20000) (P : Nat → Prop) :
    Calls Try.prog 25 #[o.p, .slice a n cap] w (GQ w X o c P) := by
  by_cases he : ∀ f ∈ fl, 0 ≤ f.at'
  · refine (script_yes h a n cap fl hf hn hn2 hd he).mono ?_
    rintro e w' ⟨rfl, hc, hk⟩
    refine ⟨_, _, rfl, hc, hk, ⟨rfl, ⟨rfl, rfl, fun _ _ _ _ h => h⟩, fun _ => ⟨?_, fun f hf => ?_⟩⟩, .inr (.inl rfl)⟩
    · show (fl.map _).length ≤ 20000
      rw [List.length_map]; omega
    · obtain ⟨g, hg, rfl⟩ := List.mem_map.1 hf
      show (g.data.take _).length ≤ 20000
      rw [List.length_take]
      have := hd g hg
      omega
  · refine (script_no a n cap fl hf hn he o.bc).mono ?_
    rintro e w' ⟨rfl, hb⟩
    exact ⟨_, c, rfl, h.below hb, Kp.of_below hb, Kd.refl _ _, .inl ⟨rfl, hb⟩⟩
/-- what a reading comes to -/
theorem gread_all {w : World} {X : Nat → Prop} {o : Own} {c : Ch} (h : ChAt w X o c) (k page : Int) :
    Calls Try.prog 16 #[o.p, .int .i64 k, .int .i64 page] w fun e w' =>
      (∃ a cc l r, e = .returned (.tuple #[.slice a l.length cc, .int .i64 r]) ∧ l.length ≤ cc ∧ RwX w' X a l) ∧ (∃ c', ChAt w' X o c' ∧ Kd c c' fun _ => False) ∧ Kp (o.F c.nb) w w' := by
  by_cases he : rpE c k page = 0
  · obtain ⟨r1, r2, r3⟩ := rpE_zero he
    obtain ⟨s1, s2, s3⟩ := reE_zero r1
    obtain ⟨k, rfl⟩ : ∃ n : Nat, k = n := ⟨k.toNat, by omega⟩
    obtain ⟨page, rfl⟩ : ∃ n : Nat, page = n := ⟨page.toNat, by omega⟩
    refine (read_yes h k page he).mono ?_
    rintro e w' ⟨⟨g, cc, rfl, hcc, hg, hr, hl⟩, hc, hk⟩
    have hx : RwX w' X (some ⟨g, 0, none⟩) (rdL c k page) := ⟨hr, fun b off s e _ gx => by
      injection e with e
      injection e with e1 e2 e3
      have := h.old _ gx
      omega⟩
    exact ⟨⟨_, cc, _, 0, by rw [hl], by rw [hl]; exact hcc, hx⟩, ⟨_, hc, Kd.same rfl rfl rfl rfl _⟩, hk⟩
  · refine (read_no h k page he).mono ?_
    rintro e w' ⟨rfl, rfl⟩
    exact ⟨⟨none, 0, [], _, rfl, Nat.le_refl _, RwX.nil⟩, ⟨c, h, Kd.refl _ _⟩, Kp.refl _ _⟩

end Go.Proofs.Ytiaaeiefgnoiaaa
