/-
  Both chips alike, and each operation done on both: they answer the same and are alike behind it.
-/
import Derived.Test.YtiaaeiefgnoiaaaRxErase
import Derived.Test.YtiaaeiefgnoiaaaNandAll
import Derived.Test.YtiaaeiefgnoiaaaNandDump
namespace Go.Proofs.Ytiaaeiefgnoiaaa
open Go.RowKit Crcm Go.ChangeShapes

/-- a page's bytes: none of an erased one -/
def opt (l : List Int) : Option (List Int) := if l = [] then none else some l
/-- what can be told of both chips is the same -/
structure LkS (c : Ch) (r : Rx) : Prop where
  geo : r.nb = c.nb ∧ r.np = c.np ∧ r.sz = c.sz
  pg : ∀ k i, k < c.nb → i < c.np → r.pg (k * c.np + i) = (c.pg k i).getD []
  bad : ∀ k, k < c.nb → r.bad k = c.bad k
  wr : ∀ k, k < c.nb → r.wr k = c.wear k
  up : r.dn = !c.up
  st : r.st = c.strokes
  rd : r.rd = c.reads
/-- both chips are the same, without faults -/
structure Lk (c : Ch) (r : Rx) : Prop where
  s : LkS c r
  nxt : ∀ k, k < c.nb → r.nx k = (nx (c.pg k) c.np : Nat)
  br : ∀ k, k < c.nb → r.br k = c.broken k
  fl : c.fl = [] ∧ r.fl = []
  gd : 7 < c.nb ∧ c.nb < 129 ∧ 3 < c.np

theorem fnd_nil (n : Int) : fnd [] n = ⟨0, 0, []⟩ := rfl
theorem Lk.place {c : Ch} {r : Rx} (h : Lk c r) (k page : Int) : placeF r.nb r.np r.dn k page = rpE c k page := by
  obtain ⟨g1, g2, -⟩ := h.s.geo
  unfold placeF rpE reE
  rw [g1, g2, h.s.up]
  cases c.up
  · simp
  · simp only [Bool.not_true, if_neg (show ¬ (false = true) by decide), if_pos]
    by_cases h1 : k < 0 ∨ (c.nb : Int) ≤ k
    · rw [if_pos (by omega), if_pos h1, if_neg (by decide)]
    · rw [if_neg h1, if_pos rfl]
      by_cases h2 : page < 0 ∨ (c.np : Int) ≤ page
      · rw [if_pos (by omega), if_pos h2]
      · rw [if_neg (by omega), if_neg h2]
theorem Lk.place0 {c : Ch} {r : Rx} (h : Lk c r) (k : Int) : placeF r.nb r.np r.dn k 0 = reE c k := by
  have := h.gd
  rw [h.place]
  unfold rpE
  by_cases g : reE c k = 0
  · rw [if_pos g, if_neg (by omega), g]
  · rw [if_neg g]
theorem nx_le (f : Nat → Option (List Int)) (n : Nat) : nx f n ≤ n := by
  induction n with
  | zero => exact Nat.le_refl _
  | succ n ih => unfold nx; split <;> omega
theorem nx_congr {f g : Nat → Option (List Int)} {n : Nat} (h : ∀ i, i < n → (f i).isSome = (g i).isSome) : nx f n = nx g n := by
  induction n with
  | zero => rfl
  | succ n ih =>
    unfold nx
    rw [h n (by omega), ih (fun i hi => h i (by omega))]
theorem nx_at {f : Nat → Option (List Int)} {n k : Nat} (h1 : (f k).isSome = true) (h2 : k < n) (h3 : ∀ i, k < i → i < n → f i = none) : nx f n = k + 1 := by
  induction n with
  | zero => omega
  | succ n ih =>
    unfold nx
    by_cases e : n = k
    · subst e; rw [if_pos h1]
    · rw [if_neg (by rw [h3 n (by omega) (by omega)]; decide)]
      exact ih (by omega) (fun i a b => h3 i a (by omega))
theorem nx_above {f : Nat → Option (List Int)} {n : Nat} : ∀ i, nx f n ≤ i → i < n → f i = none := by
  induction n with
  | zero => intro i _ h; omega
  | succ n ih =>
    intro i h1 h2
    unfold nx at h1
    split at h1
    · omega
    · rename_i g
      by_cases e : i = n
      · subst e
        cases hf : f i with
        | none => rfl
        | some x => rw [hf] at g; exact absurd rfl g
      · exact ih i h1 (by omega)

/-- a programming of both -/
theorem Lk.prE {c : Ch} {r : Rx} (h : Lk c r) (k page : Int) (m : Nat) : rxP r k page m = prE c k page m := by
  unfold rxP Go.Proofs.Ytiaaeiefgnoiaaa.prE
  rw [h.place]
  by_cases g : rpE c k page = 0
  · rw [if_neg (by rw [g]; exact fun q => q rfl), if_pos g, h.s.geo.2.2]
    by_cases g2 : m = c.sz + 32
    · rw [if_neg (by simpa using g2), if_pos g2]
      obtain ⟨g3, g4, g5⟩ := rpE_zero g
      obtain ⟨-, g6, g7⟩ := reE_zero g3
      rw [h.s.bad _ (by omega), h.br _ (by omega), h.nxt _ (by omega)]
      by_cases g8 : c.bad k.toNat = true
      · rw [if_pos g8, if_pos g8]
      · rw [if_neg g8, if_neg g8]
        have e : ((nx (c.pg k.toNat) c.np : Nat) : Int) ≠ page ↔ nx (c.pg k.toNat) c.np ≠ page.toNat := by
          constructor
          · intro q1 q2; exact q1 (by omega)
          · intro q1 q2; exact q1 (by omega)
        by_cases g9 : c.broken k.toNat = true ∨ nx (c.pg k.toNat) c.np ≠ page.toNat
        · rw [if_pos g9, if_pos (by rw [e]; exact g9)]
        · rw [if_neg g9, if_neg (by rw [e]; exact g9)]
    · rw [if_pos (by simpa using g2), if_neg g2]
  · rw [if_pos g, if_neg g]
theorem flF_same {l : List Int} {n : Nat} (h : l.length = n) : flF l n = l := by
  subst h
  apply List.ext_getElem
  · simp [flF]
  · intro i h1 h2
    simp [flF, List.getD_eq_getElem?_getD, h2]
theorem flF_nil (n : Nat) : flF [] n = List.replicate n 255 := by
  apply List.ext_getElem
  · simp [flF]
  · intro i h1 h2
    simp [flF]
theorem ix_inj {np k i k' i' : Nat} (hi : i < np) (hi' : i' < np) (h : k * np + i = k' * np + i') : k = k' ∧ i = i' := by
  have h1 : (k * np + i) / np = k := by rw [Nat.mul_comm, Nat.mul_add_div (by omega), Nat.div_eq_of_lt hi, Nat.add_zero]
  have h2 : (k' * np + i') / np = k' := by rw [Nat.mul_comm, Nat.mul_add_div (by omega), Nat.div_eq_of_lt hi', Nat.add_zero]
  have e : k = k' := by rw [← h1, ← h2, h]
  subst e
  exact ⟨rfl, by omega⟩
theorem Lk.prog {c : Ch} {r : Rx} (h : Lk c r) {k q : Nat} (hk : k < c.nb) (hq : q < c.np) (l : List Int) (hl : l.length = c.sz + 32) : LkS (prC c k q l) (rxPC r k q l) := by
  have e : prC c k q l = { stC c with pg := up2 c.pg k q (some l) } := by
    unfold prC
    rw [h.fl.1, fnd_nil]
    rfl
  rw [e]
  obtain ⟨g1, g2, g3⟩ := h.s.geo
  refine ⟨⟨g1, g2, g3⟩, fun k' i' hk' hi' => ?_, h.s.bad, h.s.wr, h.s.up, ?_, h.s.rd⟩
  · show up1 r.pg (k * r.np + q) (flF l (r.sz + 32)) (k' * c.np + i') = (up2 c.pg k q (some l) k' i').getD []
    rw [g2, g3, flF_same hl]
    have hi2 : i' < c.np := hi'
    have hk2 : k' < c.nb := hk'
    unfold up2
    by_cases e1 : k' = k
    · subst e1
      rw [up1_at]
      by_cases e2 : i' = q
      · subst e2; rw [up1_at, up1_at]; rfl
      · rw [up1_ne (c.pg k') _ e2, up1_ne r.pg _ (by omega)]
        exact h.s.pg k' i' hk2 hi2
    · rw [up1_ne c.pg _ e1, up1_ne r.pg _ (fun q' => e1 (ix_inj hi2 hq q').1)]
      exact h.s.pg k' i' hk' hi'
  · show wrap64 (r.st + 1) = wrap64 (c.strokes + 1)
    rw [h.s.st]
theorem Lk.erE {c : Ch} {r : Rx} (h : Lk c r) (k : Int) : rxE r k = erE c k := by
  unfold rxE Go.Proofs.Ytiaaeiefgnoiaaa.erE
  rw [h.place0]
  by_cases g : reE c k = 0
  · rw [if_neg (by rw [g]; exact fun q => q rfl), if_pos g]
    obtain ⟨-, g6, g7⟩ := reE_zero g
    rw [h.s.bad _ (by omega)]
  · rw [if_pos g, if_neg g]
theorem Lk.erase {c : Ch} {r : Rx} (h : Lk c r) {k : Nat} (hk : k < c.nb) : LkS (erD c k) (rxEC r k) := by
  have e : erD c k = erC (stC c) k := by
    unfold erD
    rw [h.fl.1, fnd_nil]
    rfl
  rw [e]
  obtain ⟨g1, g2, g3⟩ := h.s.geo
  refine ⟨⟨g1, g2, g3⟩, fun k' i' hk' hi' => ?_, h.s.bad, fun k' hk' => ?_, h.s.up, ?_, h.s.rd⟩
  · show clr r.pg (k * r.np) r.np (k' * c.np + i') = (up1 c.pg k (fun _ => none) k' i').getD []
    rw [g2]
    unfold clr
    have hi2 : i' < c.np := hi'
    by_cases e1 : k' = k
    · subst e1
      rw [up1_at, if_pos (by omega)]; rfl
    · rw [up1_ne _ _ e1, if_neg]
      · exact h.s.pg k' i' hk' hi'
      · intro g
        have h3 := ix_inj (np := c.np) (k := k) (i := k' * c.np + i' - k * c.np) (k' := k') (i' := i') (by omega) hi2 (by omega)
        exact e1 h3.1.symm
  · show up1 r.wr k (wrap64 (r.wr k + 1)) k' = up1 c.wear k (wrap64 (c.wear k + 1)) k'
    by_cases e1 : k' = k
    · subst e1; rw [up1_at, up1_at, h.s.wr _ hk]
    · rw [up1_ne _ _ e1, up1_ne _ _ e1]; exact h.s.wr k' hk'
  · show wrap64 (r.st + 1) = wrap64 (c.strokes + 1)
    rw [h.s.st]
theorem Lk.mark {c : Ch} {r : Rx} (h : Lk c r) (k : Nat) : LkS { c with bad := up1 c.bad k true } { r with bad := up1 r.bad k true } := by
  refine ⟨h.s.geo, h.s.pg, fun k' hk' => ?_, h.s.wr, h.s.up, h.s.st, h.s.rd⟩
  show up1 r.bad k true k' = up1 c.bad k true k'
  by_cases e1 : k' = k
  · subst e1; rw [up1_at, up1_at]
  · rw [up1_ne _ _ e1, up1_ne _ _ e1]; exact h.s.bad k' hk'
theorem ChAt.len {w : World} {X : Nat → Prop} {o : Own} {c : Ch} (h : ChAt w X o c) {k i : Nat} (hk : k < c.nb) (hi : i < c.np) {l : List Int} (hl : c.pg k i = some l) : l.length = c.sz + 32 := by
  obtain ⟨v, -, h2⟩ := h.pcell hk hi
  rw [hl] at h2
  obtain ⟨_, _, _, _, _, h3, _⟩ := h2
  exact h3
theorem Lk.rdL {c : Ch} {r : Rx} (h : Lk c r) {k i : Nat} (hk : k < c.nb) (hi : i < c.np) (hl : ∀ l, c.pg k i = some l → l.length = c.sz + 32) : flF (r.pg (k * r.np + i)) (r.sz + 32) = rdL c k i := by
  obtain ⟨g1, g2, g3⟩ := h.s.geo
  rw [g2, g3, h.s.pg k i hk hi]
  unfold Go.Proofs.Ytiaaeiefgnoiaaa.rdL
  cases hp : c.pg k i with
  | none => exact flF_nil _
  | some l => exact flF_same (hl l hp)

/-- an operation that both answer the same -/
def Bo (X : Nat → Prop) (o : Own) (c : Ch) (ro : Rb) (r : Rx) (fi fd : Nat) (args : List Value) (w0 : World) : Prop :=
  ∃ (E : Int) (c1 : Ch) (r1 : Rx), LkS c1 r1 ∧ c1.nb = c.nb ∧
    (∀ w, ChAt w X o c → Kp X w0 w → Calls Try.prog fi (o.p :: args).toArray w fun e w' => e = .returned (.int .i64 E) ∧ ChAt w' X o c1 ∧ Kp (o.F c.nb) w w') ∧
    (∀ w, RxAt w X ro r → Kp X w0 w → Calls Try.prog fd (.pointer (some ⟨ro.g, 0, none⟩) :: args).toArray w fun e w' => e = .returned (.int .i64 E) ∧ RxAt w' X ro r1 ∧ Kp ro.F w w')

theorem bprog {X : Nat → Prop} {o : Own} {c : Ch} {ro : Rb} {r : Rx} (h : Lk c r) (w0 : World) (k page : Int) (A : Option Addr) (m cap : Nat) (l : List Int) (hr : RwX w0 X A l) (hl : l.length = m) :
    Bo X o c ro r 22 38 [.int .i64 k, .int .i64 page, .slice A m cap] w0 := by
  have hm : m ≤ maxLen := by have := hr.1.2.1; omega
  by_cases g : prE c k page m = 0
  · obtain ⟨g1, g2, -⟩ := prE_zero g
    obtain ⟨g3, g4, g5⟩ := rpE_zero g1
    obtain ⟨-, g6, g7⟩ := reE_zero g3
    obtain ⟨n, rfl⟩ : ∃ n : Nat, k = n := ⟨k.toNat, by omega⟩
    obtain ⟨q, rfl⟩ : ∃ n : Nat, page = n := ⟨page.toNat, by omega⟩
    subst g2
    refine ⟨0, prC c n q l, rxPC r n q l, h.prog (by omega) (by omega) l hl, ?_, fun w hc hk => ?_, fun w hc hk => ?_⟩
    · unfold prC
      rw [h.fl.1, fnd_nil]
      rfl
    · have := program_yes hc n q A cap l (hr.kp hk (fun _ g => g)) hl g
      rw [h.fl.1, fnd_nil] at this
      exact this
    · have g' := g
      rw [← h.prE] at g'
      exact rxprog_yes hc h.fl.2 n q A _ cap l (hr.kp hk (fun _ g => g)) hl g'
  · refine ⟨prE c k page m, c, r, h.s, rfl, fun w hc hk => ?_, fun w hc hk => ?_⟩
    · refine (program_no hc k page A m cap hm g).mono ?_
      rintro e w' ⟨rfl, rfl⟩
      exact ⟨rfl, hc, Kp.refl _ _⟩
    · have g' := g
      rw [← h.prE] at g'
      refine (rxprog_no hc k page A m cap hm g').mono ?_
      rintro e w' ⟨rfl, rfl⟩
      exact ⟨by rw [h.prE], hc, Kp.refl _ _⟩
theorem berase {X : Nat → Prop} {o : Own} {c : Ch} {ro : Rb} {r : Rx} (h : Lk c r) (w0 : World) (k : Int) :
    Bo X o c ro r 23 39 [.int .i64 k] w0 := by
  by_cases g : erE c k = 0
  · have g1 : reE c k = 0 := by
      unfold erE at g
      by_cases g2 : reE c k = 0
      · exact g2
      · rw [if_neg g2] at g; exact g
    obtain ⟨-, g6, g7⟩ := reE_zero g1
    obtain ⟨n, rfl⟩ : ∃ n : Nat, k = n := ⟨k.toNat, by omega⟩
    refine ⟨0, erD c n, rxEC r n, h.erase (by omega), ?_, fun w hc hk => ?_, fun w hc hk => ?_⟩
    · unfold erD
      rw [h.fl.1, fnd_nil]
      rfl
    · have := erase_yes hc n g
      rw [h.fl.1, fnd_nil] at this
      exact this
    · have g' := g
      rw [← h.erE] at g'
      exact rxerase_yes hc h.fl.2 n g'
  · refine ⟨erE c k, c, r, h.s, rfl, fun w hc hk => ?_, fun w hc hk => ?_⟩
    · refine (erase_no hc k g).mono ?_
      rintro e w' ⟨rfl, rfl⟩
      exact ⟨rfl, hc, Kp.refl _ _⟩
    · have g' := g
      rw [← h.erE] at g'
      refine (rxerase_no hc k g').mono ?_
      rintro e w' ⟨rfl, rfl⟩
      exact ⟨by rw [h.erE], hc, Kp.refl _ _⟩
theorem bmark {X : Nat → Prop} {o : Own} {c : Ch} {ro : Rb} {r : Rx} (h : Lk c r) (w0 : World) (k : Int) :
    Bo X o c ro r 24 40 [.int .i64 k] w0 := by
  by_cases g : reE c k = 0
  · obtain ⟨-, g6, g7⟩ := reE_zero g
    obtain ⟨n, rfl⟩ : ∃ n : Nat, k = n := ⟨k.toNat, by omega⟩
    refine ⟨0, { c with bad := up1 c.bad n true }, { r with bad := up1 r.bad n true }, h.mark n, rfl, fun w hc hk => mark_yes hc n g, fun w hc hk => ?_⟩
    have g' := g
    rw [← h.place0] at g'
    exact rxmark_yes hc n g'
  · refine ⟨reE c k, c, r, h.s, rfl, fun w hc hk => ?_, fun w hc hk => ?_⟩
    · refine (mark_no hc k g).mono ?_
      rintro e w' ⟨rfl, rfl⟩
      exact ⟨rfl, hc, Kp.refl _ _⟩
    · have g' := g
      rw [← h.place0] at g'
      refine (rxmark_no hc k g').mono ?_
      rintro e w' ⟨rfl, rfl⟩
      exact ⟨by rw [h.place0], hc, Kp.refl _ _⟩
theorem bscript {X : Nat → Prop} {o : Own} {c : Ch} {ro : Rb} {r : Rx} (h : Lk c r) (w0 : World) (A : Option Addr) (m cap : Nat) (fl : List Fl) (hf : FlAt w0 X (.slice A m cap) fl) (hn : fl.length = m) (hn2 : m ≤ 20000) (hd : ∀ f ∈ fl, f.data.length ≤ 20000) :
    Bo X o c ro r 25 43 [.slice A m cap] w0 := by
  by_cases g : ∀ f ∈ fl, 0 ≤ f.at'
  · refine ⟨0, { c with fl := fl.map (trF (c.sz + 32)), since := 0 }, { r with fl := fl, si := 0 }, ⟨h.s.geo, h.s.pg, h.s.bad, h.s.wr, h.s.up, h.s.st, h.s.rd⟩, rfl, fun w hc hk => script_yes hc A m cap fl (hf.kp hk (fun _ g => g)) hn hn2 hd g, fun w hc hk => ?_⟩
    refine (rxscript_any hc A m cap fl (hf.kp hk (fun _ g => g))).mono ?_
    rintro e w' ⟨⟨-, he, h2⟩ | ⟨q, -⟩, h3⟩
    · exact ⟨he, h2, h3⟩
    · exact absurd g q
  · refine ⟨1, c, r, h.s, rfl, fun w hc hk => ?_, fun w hc hk => ?_⟩
    · refine (script_no A m cap fl (hf.kp hk (fun _ g => g)) hn g o.bc).mono ?_
      rintro e w' ⟨he, hb⟩
      exact ⟨he, hc.below hb, Kp.of_below hb⟩
    · refine (rxscript_any hc A m cap fl (hf.kp hk (fun _ g => g))).mono ?_
      rintro e w' ⟨⟨q, -⟩ | ⟨-, he, h2⟩, h3⟩
      · exact absurd q g
      · exact ⟨he, h2, h3⟩

/-- all pages, told by either chip -/
theorem allp_at (c : Ch) : ∀ (K : Nat) {k i : Nat}, k < K → i < c.np → (allp c K)[k * c.np + i]! = (c.pg k i).getD [] := by
  intro K
  induction K with
  | zero => intro k i h; omega
  | succ K ih =>
    intro k i hk hi
    rw [allp]
    by_cases e : k = K
    · subst e
      rw [app_right (l := allp c k) (m := pgs c k) (by rw [allp_len]; omega) (by rw [allp_len, pgs_len]; omega), allp_len, show k * c.np + i - k * c.np = i by omega, pgs_at c k hi]
    · rw [app_left (l := allp c K) (m := pgs c K) (by rw [allp_len]; exact page_ix (by omega) hi)]
      exact ih (by omega) hi
theorem LkS.pages {c : Ch} {r : Rx} (h : LkS c r) (hp : 0 < c.np) : rxp r = allp c c.nb := by
  obtain ⟨g1, g2, -⟩ := h.geo
  have hl : (rxp r).length = c.nb * c.np := by rw [rxp_len, g1, g2]
  apply List.ext_getElem
  · rw [hl, allp_len]
  · intro j h1 h2
    rw [hl] at h1
    have e := allp_at c c.nb (k := j / c.np) (i := j % c.np) (by rw [Nat.div_lt_iff_lt_mul hp]; exact h1) (Nat.mod_lt _ hp)
    have ej : j / c.np * c.np + j % c.np = j := by rw [Nat.mul_comm]; exact Nat.div_add_mod j c.np
    have e2 := h.pg (j / c.np) (j % c.np) (by rw [Nat.div_lt_iff_lt_mul hp]; exact h1) (Nat.mod_lt _ hp)
    rw [ej] at e e2
    rw [getElem!_pos (allp c c.nb) j h2] at e
    rw [e, ← e2]
    simp [rxp]

end Go.Proofs.Ytiaaeiefgnoiaaa
