/-
  Rows of blocks in plain numbers: which rows are right, what is best in one, what is to be done next.
-/
import Derived.Test.YtbfifppdcmimaaaGreatProg
import Derived.Test.YtbfifppdcmimaaaGreatKA
import Derived.Lib.Hide
import Derived.WalkKit
import Derived.ProofKit
import Derived.OpenShut
import Derived.Below
import Derived.Deep.Slices
import Derived.Deep.Grids
import Derived.Lib.SmallJoins
import Derived.Laws.Rows
import Derived.Laws.AppendOwnNone
namespace Gcm
structure Bk where
  st : Int
  lv : Int
  wr : Int
  nx : Int
instance : Inhabited Bk := ⟨⟨0, 0, 0, 0⟩⟩

/-- a block that may stand in a row that is right -/
def Rb (pages : Int) (b : Bk) : Prop :=
  0 ≤ b.st ∧ b.st ≤ 4 ∧ 0 ≤ b.lv ∧ b.lv ≤ pages ∧ 0 ≤ b.nx ∧ b.nx ≤ pages ∧ 0 ≤ b.wr ∧ b.wr ≤ 1099511627776 ∧ (0 < b.lv → b.st = 1 ∨ b.st = 2)
instance (pages : Int) (b : Bk) : Decidable (Rb pages b) := by unfold Rb; infer_instance
/-- a right row -/
def Rt (l : List Bk) (pages : Int) : Prop := (1 ≤ pages ∧ pages ≤ 32) ∧ ∀ b ∈ l, Rb pages b
instance (l : List Bk) (pages : Int) : Decidable (Rt l pages) := by unfold Rt; infer_instance

/-- the place of the best of the first so many -/
def best (fit : Bk → Bool) (bt : Bk → Bk → Bool) (l : List Bk) : Nat → Int
  | 0 => -1
  | k + 1 => if fit l[k]! && (decide (best fit bt l k < 0) || bt l[k]! l[(best fit bt l k).toNat]!) then (k : Int) else best fit bt l k

theorem best_ge (fit : Bk → Bool) (bt : Bk → Bk → Bool) (l : List Bk) (k : Nat) : -1 ≤ best fit bt l k := by
  induction k with
  | zero => simp [best]
  | succ k ih => simp only [best]; split <;> omega
theorem best_lt (fit : Bk → Bool) (bt : Bk → Bk → Bool) (l : List Bk) (k : Nat) : best fit bt l k < k := by
  induction k with
  | zero => simp [best]
  | succ k ih => simp only [best]; split <;> omega
theorem best_fit (fit : Bk → Bool) (bt : Bk → Bk → Bool) (l : List Bk) (k : Nat) (h : 0 ≤ best fit bt l k) : fit l[(best fit bt l k).toNat]! = true := by
  induction k with
  | zero => simp [best] at h
  | succ k ih =>
    simp only [best] at h ⊢
    split
    · next c => simp only [Bool.and_eq_true] at c; simpa using c.1
    · next c => rw [if_neg c] at h; exact ih h
theorem best_none (fit : Bk → Bool) (bt : Bk → Bk → Bool) (l : List Bk) (k : Nat) : best fit bt l k < 0 ↔ ∀ j, j < k → fit l[j]! = false := by
  induction k with
  | zero => simp [best]
  | succ k ih =>
    simp only [best]
    constructor
    · intro h j hj
      split at h
      · omega
      · next c =>
        by_cases e : j = k
        · subst e
          cases hf : fit l[j]! with
          | false => rfl
          | true => exact absurd (by rw [hf, decide_eq_true h]; rfl) c
        · exact ih.1 h j (by omega)
    · intro h
      rw [if_neg (by rw [h k (by omega), Bool.false_and]; exact Bool.false_ne_true)]
      exact ih.2 fun j hj => h j (by omega)
/-- nothing that fits is better than what is best -/
theorem best_min (fit : Bk → Bool) (bt : Bk → Bk → Bool) (l : List Bk) (k : Nat) (irr : ∀ a, bt a a = false) (tr : ∀ a b c, bt a b = true → bt b c = true → bt a c = true)
    (h : 0 ≤ best fit bt l k) (j : Nat) (hj : j < k) (hf : fit l[j]! = true) : bt l[j]! l[(best fit bt l k).toNat]! = false := by
  induction k with
  | zero => omega
  | succ k ih =>
    by_cases c : (fit l[k]! && (decide (best fit bt l k < 0) || bt l[k]! l[(best fit bt l k).toNat]!)) = true
    · have e : best fit bt l (k + 1) = (k : Int) := by simp only [best]; rw [if_pos c]
      rw [e, Int.toNat_natCast]
      by_cases e2 : j = k
      · rw [e2]; exact irr _
      · simp only [Bool.and_eq_true, Bool.or_eq_true, decide_eq_true_eq] at c
        rcases c.2 with h0 | h1
        · have := (best_none fit bt l k).1 h0 j (by omega)
          rw [this] at hf; cases hf
        · by_cases h0 : best fit bt l k < 0
          · have := (best_none fit bt l k).1 h0 j (by omega)
            rw [this] at hf; cases hf
          · have h2 := ih (by omega) (by omega)
            cases h3 : bt l[j]! l[k]! with
            | false => rfl
            | true => rw [tr _ _ _ h3 h1] at h2; cases h2
    · have e : best fit bt l (k + 1) = best fit bt l k := by simp only [best]; rw [if_neg c]
      rw [e] at h ⊢
      by_cases e2 : j = k
      · subst e2
        cases h3 : bt l[j]! l[(best fit bt l j).toNat]! with
        | false => rfl
        | true => exact absurd (by rw [hf, h3, Bool.or_true]; rfl) c
      · exact ih h (by omega)
theorem best_congr (fit fit' : Bk → Bool) (bt bt' : Bk → Bk → Bool) (l : List Bk) (k : Nat) (h1 : ∀ j, j < k → fit l[j]! = fit' l[j]!)
    (h2 : ∀ j i, j < k → i < k → fit' l[j]! = true → fit' l[i]! = true → bt l[j]! l[i]! = bt' l[j]! l[i]!) : best fit bt l k = best fit' bt' l k := by
  induction k with
  | zero => rfl
  | succ k ih =>
    have e := ih (fun j hj => h1 j (by omega)) (fun j i hj hi => h2 j i (by omega) (by omega))
    simp only [best]
    rw [e, h1 k (by omega)]
    cases hf : fit' l[k]! with
    | false => simp
    | true =>
      by_cases h0 : best fit' bt' l k < 0
      · simp [h0]
      · have hl := best_lt fit' bt' l k
        rw [h2 k _ (by omega) (by omega : (best fit' bt' l k).toNat < k + 1) hf (best_fit fit' bt' l k (by omega))]

/-- which is less worn, more worn, or has less that is needed -/
def lw (a b : Bk) : Bool := decide (a.wr < b.wr)
def gw (a b : Bk) : Bool := decide (b.wr < a.wr)
def ll (a b : Bk) : Bool := decide (a.lv < b.lv) || (a.lv == b.lv && decide (a.wr < b.wr))
theorem lw_irr (a : Bk) : lw a a = false := by simp [lw]
theorem gw_irr (a : Bk) : gw a a = false := by simp [gw]
theorem ll_irr (a : Bk) : ll a a = false := by simp [ll]
theorem lw_tr (a b c : Bk) (h : lw a b = true) (g : lw b c = true) : lw a c = true := by simp [lw] at *; omega
theorem gw_tr (a b c : Bk) (h : gw a b = true) (g : gw b c = true) : gw a c = true := by simp [gw] at *; omega
theorem ll_tr (a b c : Bk) (h : ll a b = true) (g : ll b c = true) : ll a c = true := by simp [ll] at *; omega

def good (b : Bk) : Bool := b.st != 4
/-- the Wear of the best block that is not bad -/
def wearAt (bt : Bk → Bk → Bool) (l : List Bk) (k : Nat) : Int := if best good bt l k < 0 then 0 else l[(best good bt l k).toNat]!.wr
def least (l : List Bk) : Int := wearAt lw l l.length
def greatest (l : List Bk) : Int := wearAt gw l l.length

theorem getB_mem (l : List Bk) (j : Nat) (h : j < l.length) : l[j]! ∈ l := by rw [getElem!_pos l j h]; exact List.getElem_mem h
theorem mem_getB (l : List Bk) (b : Bk) (h : b ∈ l) : ∃ j, j < l.length ∧ l[j]! = b := by
  obtain ⟨j, hj, rfl⟩ := List.mem_iff_getElem.1 h
  exact ⟨j, hj, getElem!_pos l j hj⟩
theorem best_mem (fit : Bk → Bool) (bt : Bk → Bk → Bool) (l : List Bk) (h : 0 ≤ best fit bt l l.length) : l[(best fit bt l l.length).toNat]! ∈ l :=
  getB_mem _ _ (by have := best_lt fit bt l l.length; omega)
theorem best_all (fit : Bk → Bool) (bt : Bk → Bk → Bool) (l : List Bk) : best fit bt l l.length < 0 ↔ ∀ b ∈ l, fit b = false := by
  rw [best_none]
  constructor
  · intro h b hb
    obtain ⟨j, hj, rfl⟩ := mem_getB l b hb
    exact h j hj
  · exact fun h j hj => h _ (getB_mem l j hj)
theorem best_least (fit : Bk → Bool) (bt : Bk → Bk → Bool) (l : List Bk) (irr : ∀ a, bt a a = false) (tr : ∀ a b c, bt a b = true → bt b c = true → bt a c = true)
    (h : 0 ≤ best fit bt l l.length) (b : Bk) (hb : b ∈ l) (hf : fit b = true) : bt b l[(best fit bt l l.length).toNat]! = false := by
  obtain ⟨j, hj, rfl⟩ := mem_getB l b hb
  exact best_min fit bt l _ irr tr h j hj hf

theorem least_le (l : List Bk) (b : Bk) (hb : b ∈ l) (hg : b.st ≠ 4) : least l ≤ b.wr := by
  have hgg : good b = true := by simp [good, hg]
  have h0 : ¬ best good lw l l.length < 0 := fun h => by have := (best_all good lw l).1 h b hb; rw [hgg] at this; cases this
  have := best_least good lw l lw_irr lw_tr (by omega) b hb hgg
  unfold least wearAt
  rw [if_neg h0]
  have := of_decide_eq_false (show decide (_ < _) = false from this)
  omega
theorem le_greatest (l : List Bk) (b : Bk) (hb : b ∈ l) (hg : b.st ≠ 4) : b.wr ≤ greatest l := by
  have hgg : good b = true := by simp [good, hg]
  have h0 : ¬ best good gw l l.length < 0 := fun h => by have := (best_all good gw l).1 h b hb; rw [hgg] at this; cases this
  have := best_least good gw l gw_irr gw_tr (by omega) b hb hgg
  unfold greatest wearAt
  rw [if_neg h0]
  have := of_decide_eq_false (show decide (_ < _) = false from this)
  omega
theorem least_of (l : List Bk) : (∃ b ∈ l, b.st ≠ 4 ∧ b.wr = least l) ∨ ((∀ b ∈ l, b.st = 4) ∧ least l = 0) := by
  by_cases h : best good lw l l.length < 0
  · refine .inr ⟨fun b hb => by have := (best_all good lw l).1 h b hb; simpa [good] using this, ?_⟩
    unfold least wearAt; rw [if_pos h]
  · refine .inl ⟨_, best_mem good lw l (by omega), ?_, ?_⟩
    · have := best_fit good lw l l.length (by omega); simpa [good] using this
    · unfold least wearAt; rw [if_neg h]
theorem greatest_of (l : List Bk) : (∃ b ∈ l, b.st ≠ 4 ∧ b.wr = greatest l) ∨ ((∀ b ∈ l, b.st = 4) ∧ greatest l = 0) := by
  by_cases h : best good gw l l.length < 0
  · refine .inr ⟨fun b hb => by have := (best_all good gw l).1 h b hb; simpa [good] using this, ?_⟩
    unfold greatest wearAt; rw [if_pos h]
  · refine .inl ⟨_, best_mem good gw l (by omega), ?_, ?_⟩
    · have := best_fit good gw l l.length (by omega); simpa [good] using this
    · unfold greatest wearAt; rw [if_neg h]
theorem least_same (l m : List Bk) (h : ∀ b, b ∈ l ↔ b ∈ m) : least l = least m := by
  rcases least_of l with ⟨b, hb, h4, e⟩ | ⟨h4, e⟩ <;> rcases least_of m with ⟨c, hc, g4, f⟩ | ⟨g4, f⟩
  · have := least_le m b ((h b).1 hb) h4
    have := least_le l c ((h c).2 hc) g4
    omega
  · exact absurd (g4 b ((h b).1 hb)) h4
  · exact absurd (h4 c ((h c).2 hc)) g4
  · rw [e, f]
theorem least_bounds (l : List Bk) (p : Int) (h : Rt l p) : 0 ≤ least l ∧ least l ≤ 1099511627776 := by
  rcases least_of l with ⟨b, hb, _, e⟩ | ⟨_, e⟩
  · have := h.2 b hb; unfold Rb at this; omega
  · omega
theorem greatest_bounds (l : List Bk) (p : Int) (h : Rt l p) : 0 ≤ greatest l ∧ greatest l ≤ 1099511627776 := by
  rcases greatest_of l with ⟨b, hb, _, e⟩ | ⟨_, e⟩
  · have := h.2 b hb; unfold Rb at this; omega
  · omega

/-- what may be erased -/
def may (m : Int) (b : Bk) : Bool := b.st != 4 && decide (b.wr - m < 4)
def loose (p : Int) (b : Bk) : Bool := b.st == 2 && decide (b.lv < p)
def empty (b : Bk) : Bool := b.st == 0 || (b.st == 1 && b.nx == 0)
def atLeast (m : Int) (b : Bk) : Bool := b.wr == m
def full (b : Bk) : Bool := b.st == 2
def stale (b : Bk) : Bool := b.st == 3

/-- what is looked for -/
structure Sr where
  kind : Int
  room : Bool
  fit : Bk → Bool
  bt : Bk → Bk → Bool
instance : Inhabited Sr := ⟨⟨0, false, fun _ => false, lw⟩⟩
def srs (p m : Int) : List Sr :=
  [⟨1, false, fun b => stale b && may m b, lw⟩, ⟨2, true, fun b => loose p b && may m b, ll⟩, ⟨3, false, fun b => empty b && atLeast m b, lw⟩,
   ⟨2, true, fun b => full b && atLeast m b, ll⟩, ⟨4, false, stale, lw⟩, ⟨4, true, loose p, ll⟩]
def hit (room : Bool) (l : List Bk) (s : Sr) : Bool := !(s.room && !room) && decide (0 ≤ best s.fit s.bt l l.length)
def look (room : Bool) (l : List Bk) : List Sr → Int × Int
  | [] => (0, -1)
  | s :: r => if hit room l s then (s.kind, best s.fit s.bt l l.length) else look room l r
def nxt (l : List Bk) (p : Int) (room : Bool) : Int × Int := if Rt l p then look room l (srs p (least l)) else (0, -1)

/-- the rank of a block: the first that fits -/
def rnk (p m : Int) (room : Bool) (b : Bk) : Int :=
  if stale b && may m b then 1 else if b.st == 2 && room && may m b && decide (b.lv < p) then 2 else if atLeast m b && empty b then 3
  else if b.st == 2 && room && atLeast m b then 4 else if stale b then 5 else if b.st == 2 && room && decide (b.lv < p) then 6 else 0
def ahd (n : Int) (a b : Bk) : Bool :=
  if n == 3 then false else if (n == 2 || n == 4 || n == 6) && a.lv != b.lv then decide (a.lv < b.lv) else decide (a.wr < b.wr)
def kinds : List Int := [0, 1, 2, 3, 2, 4, 4]
/-- what comes first from a rank on -/
def seek (p m : Int) (room : Bool) (l : List Bk) : Nat → Nat → Int × Int
  | 0, _ => (0, -1)
  | f + 1, n => if 0 ≤ best (fun b => rnk p m room b == n) (ahd n) l l.length then (kinds[n]!, best (fun b => rnk p m room b == n) (ahd n) l l.length) else seek p m room l f (n + 1)

/-- whether a block is one that is looked for -/
def eff (room : Bool) (s : Sr) (b : Bk) : Bool := !(s.room && !room) && s.fit b
theorem no_hit {room : Bool} {l : List Bk} {s : Sr} (h : hit room l s = false) : ∀ b ∈ l, eff room s b = false := by
  intro b hb
  unfold eff
  cases hr : (s.room && !room) with
  | true => rfl
  | false =>
    unfold hit at h
    rw [hr] at h
    simp at h
    have := (best_all s.fit s.bt l).1 (by omega) b hb
    simp [this]
theorem seek_step {p m : Int} {room : Bool} {l : List Bk} {s : Sr} {n : Nat} (h1 : ∀ b ∈ l, (rnk p m room b == (n : Int)) = eff room s b)
    (h2 : ∀ a ∈ l, ∀ b ∈ l, s.fit a = true → s.fit b = true → ahd n a b = s.bt a b) :
    (hit room l s = true → 0 ≤ best (fun b => rnk p m room b == (n : Int)) (ahd n) l l.length ∧ best (fun b => rnk p m room b == (n : Int)) (ahd n) l l.length = best s.fit s.bt l l.length) ∧
    (hit room l s = false → ¬ 0 ≤ best (fun b => rnk p m room b == (n : Int)) (ahd n) l l.length) := by
  constructor
  · intro h
    unfold hit at h
    simp only [Bool.and_eq_true, decide_eq_true_eq] at h
    have e : best (fun b => rnk p m room b == (n : Int)) (ahd n) l l.length = best s.fit s.bt l l.length := by
      refine best_congr _ _ _ _ l _ (fun j hj => ?_) (fun j i hj hi fj fi => h2 _ (getB_mem l j hj) _ (getB_mem l i hi) fj fi)
      show (rnk p m room l[j]! == (n : Int)) = _
      rw [h1 _ (getB_mem l j hj), eff, h.1]; rfl
    exact ⟨by rw [e]; exact h.2, e⟩
  · intro h
    have := (best_all (fun b => rnk p m room b == (n : Int)) (ahd n) l).2 (fun b hb => by
      show (rnk p m room b == (n : Int)) = false
      rw [h1 b hb]; exact no_hit h b hb)
    omega

theorem rnk_eq (p m : Int) (room : Bool) (b : Bk) : rnk p m room b =
    if (stale b && may m b) then 1 else if (room && (loose p b && may m b)) then 2 else if (empty b && atLeast m b) then 3 else if (room && (full b && atLeast m b)) then 4 else if stale b then 5 else if (room && loose p b) then 6 else 0 := by
  unfold rnk loose full
  cases (b.st == 2) <;> cases room <;> cases may m b <;> cases decide (b.lv < p) <;> cases atLeast m b <;> cases empty b <;> cases stale b <;> rfl

theorem ahd_lw (n : Nat) (h : n = 1 ∨ n = 5) (a b : Bk) : ahd n a b = lw a b := by rcases h with rfl | rfl <;> rfl
theorem ahd_ll (n : Nat) (h : n = 2 ∨ n = 4 ∨ n = 6) (a b : Bk) : ahd n a b = ll a b := by
  unfold ahd ll
  rcases h with rfl | rfl | rfl
  all_goals
    by_cases e : a.lv = b.lv
    · simp [e]
    · simp [e]

theorem seek_one {p m : Int} {room : Bool} {l : List Bk} {s : Sr} {rest : List Sr} {n f : Nat} (hk : kinds[n]! = s.kind) (h1 : ∀ b ∈ l, (rnk p m room b == (n : Int)) = eff room s b)
    (h2 : ∀ a ∈ l, ∀ b ∈ l, s.fit a = true → s.fit b = true → ahd n a b = s.bt a b) (ih : hit room l s = false → seek p m room l f (n + 1) = look room l rest) :
    seek p m room l (f + 1) n = look room l (s :: rest) := by
  obtain ⟨t1, t2⟩ := seek_step h1 h2
  simp only [seek, look]
  cases h : hit room l s with
  | true => rw [if_pos (t1 h).1, if_pos rfl, (t1 h).2, hk]
  | false => rw [if_neg (t2 h), if_neg (by simp)]; exact ih h
theorem b1 : ∀ x1 x2 x3 x4 x5 x6 r : Bool, ((if x1 then (1 : Int) else if (r && x2) then 2 else if x3 then 3 else if (r && x4) then 4 else if x5 then 5 else if (r && x6) then 6 else 0) == 1) = (!(false && !r) && x1) := by decide
theorem b2 : ∀ x1 x2 x3 x4 x5 x6 r : Bool, (!(false && !r) && x1) = false → ((if x1 then (1 : Int) else if (r && x2) then 2 else if x3 then 3 else if (r && x4) then 4 else if x5 then 5 else if (r && x6) then 6 else 0) == 2) = (!(true && !r) && x2) := by decide
theorem b3 : ∀ x1 x2 x3 x4 x5 x6 r : Bool, (!(false && !r) && x1) = false → (!(true && !r) && x2) = false → ((if x1 then (1 : Int) else if (r && x2) then 2 else if x3 then 3 else if (r && x4) then 4 else if x5 then 5 else if (r && x6) then 6 else 0) == 3) = (!(false && !r) && x3) := by decide
theorem b4 : ∀ x1 x2 x3 x4 x5 x6 r : Bool, (!(false && !r) && x1) = false → (!(true && !r) && x2) = false → (!(false && !r) && x3) = false → ((if x1 then (1 : Int) else if (r && x2) then 2 else if x3 then 3 else if (r && x4) then 4 else if x5 then 5 else if (r && x6) then 6 else 0) == 4) = (!(true && !r) && x4) := by decide
theorem b5 : ∀ x1 x2 x3 x4 x5 x6 r : Bool, (!(false && !r) && x1) = false → (!(true && !r) && x2) = false → (!(false && !r) && x3) = false → (!(true && !r) && x4) = false → ((if x1 then (1 : Int) else if (r && x2) then 2 else if x3 then 3 else if (r && x4) then 4 else if x5 then 5 else if (r && x6) then 6 else 0) == 5) = (!(false && !r) && x5) := by decide
theorem b6 : ∀ x1 x2 x3 x4 x5 x6 r : Bool, (!(false && !r) && x1) = false → (!(true && !r) && x2) = false → (!(false && !r) && x3) = false → (!(true && !r) && x4) = false → (!(false && !r) && x5) = false → ((if x1 then (1 : Int) else if (r && x2) then 2 else if x3 then 3 else if (r && x4) then 4 else if x5 then 5 else if (r && x6) then 6 else 0) == 6) = (!(true && !r) && x6) := by decide

theorem seek_look (p m : Int) (room : Bool) (l : List Bk) : seek p m room l 6 1 = look room l (srs p m) := by
  unfold srs
  refine seek_one rfl (fun b _ => ?_) (fun a _ b _ _ _ => ahd_lw 1 (by simp) a b) fun h1 => ?_
  · rw [rnk_eq]; exact b1 _ _ _ _ _ _ _
  refine seek_one rfl (fun b hb => ?_) (fun a _ b _ _ _ => ahd_ll 2 (by simp) a b) fun h2 => ?_
  · rw [rnk_eq]; exact b2 _ _ _ _ _ _ _ (no_hit h1 b hb)
  refine seek_one rfl (fun b hb => ?_) (fun a _ b _ fa fb => ?_) fun h3 => ?_
  · rw [rnk_eq]; exact b3 _ _ _ _ _ _ _ (no_hit h1 b hb) (no_hit h2 b hb)
  · simp [empty, atLeast] at fa fb
    simp [ahd, lw, fa.2, fb.2]
  refine seek_one rfl (fun b hb => ?_) (fun a _ b _ _ _ => ahd_ll 4 (by simp) a b) fun h4 => ?_
  · rw [rnk_eq]; exact b4 _ _ _ _ _ _ _ (no_hit h1 b hb) (no_hit h2 b hb) (no_hit h3 b hb)
  refine seek_one rfl (fun b hb => ?_) (fun a _ b _ _ _ => ahd_lw 5 (by simp) a b) fun h5 => ?_
  · rw [rnk_eq]; exact b5 _ _ _ _ _ _ _ (no_hit h1 b hb) (no_hit h2 b hb) (no_hit h3 b hb) (no_hit h4 b hb)
  refine seek_one rfl (fun b hb => ?_) (fun a _ b _ _ _ => ahd_ll 6 (by simp) a b) fun h6 => rfl
  · rw [rnk_eq]; exact b6 _ _ _ _ _ _ _ (no_hit h1 b hb) (no_hit h2 b hb) (no_hit h3 b hb) (no_hit h4 b hb) (no_hit h5 b hb)

/-- the answers as they stand -/
theorem nxt_no {l : List Bk} {p : Int} {room : Bool} (h : ¬ Rt l p) : nxt l p room = (0, -1) := by unfold nxt; rw [if_neg h]
theorem nxt_look {l : List Bk} {p : Int} {room : Bool} (h : Rt l p) : nxt l p room = look room l (srs p (least l)) := by unfold nxt; rw [if_pos h]
theorem nxt_seek {l : List Bk} {p : Int} {room : Bool} (h : Rt l p) : nxt l p room = seek p (least l) room l 6 1 := by rw [nxt_look h, seek_look]

theorem look_cases (room : Bool) (l : List Bk) (S : List Sr) :
    (look room l S = (0, -1) ∧ ∀ s ∈ S, hit room l s = false) ∨ ∃ i, i < S.length ∧ (∀ j, j < i → hit room l S[j]! = false) ∧ hit room l S[i]! = true ∧ look room l S = (S[i]!.kind, best S[i]!.fit S[i]!.bt l l.length) := by
  induction S with
  | nil => exact .inl ⟨rfl, by simp⟩
  | cons s r ih =>
    simp only [look]
    cases h : hit room l s with
    | true => exact .inr ⟨0, by simp, fun j hj => absurd hj (Nat.not_lt_zero _), h, rfl⟩
    | false =>
      rcases ih with ⟨e, hn⟩ | ⟨i, hi, hn, hh, e⟩
      · exact .inl ⟨by simpa using e, by simpa [h] using hn⟩
      · refine .inr ⟨i + 1, by simp; omega, fun j hj => ?_, by simpa using hh, by simpa using e⟩
        cases j with
        | zero => simpa using h
        | succ j => simpa using hn j (by omega)
end Gcm

/-
  What is counted in a row of blocks, and what may be erased in it, in plain numbers.
-/
namespace Gcm
open Go Go.RowKit
/-- what may be erased, by its place -/
def mayAt (l : List Bk) (p k : Int) : Bool := decide (Rt l p) && decide (0 ≤ k) && decide (k < l.length) && may (least l) l[k.toNat]!

theorem mayAt_no {l : List Bk} {p k : Int} (h : ¬ Rt l p) : mayAt l p k = false := by unfold mayAt; rw [decide_eq_false h]; rfl
theorem mayAt_out {l : List Bk} {p k : Int} (h : k < 0 ∨ (l.length : Int) ≤ k) : mayAt l p k = false := by
  unfold mayAt
  rcases h with h | h
  · rw [decide_eq_false (show ¬ 0 ≤ k by omega)]; simp
  · rw [decide_eq_false (show ¬ k < (l.length : Int) by omega)]; simp
theorem mayAt_in {l : List Bk} {p : Int} {q : Nat} (h : Rt l p) (hq : q < l.length) : mayAt l p (q : Int) = may (least l) l[q]! := by
  unfold mayAt
  rw [decide_eq_true h, decide_eq_true (show (0 : Int) ≤ q by omega), decide_eq_true (show (q : Int) < (l.length : Int) by omega), Int.toNat_natCast]
  simp

/-- how many of the first are in a state; what is needed in them -/
def cnt (s : Int) (l : List Bk) : Nat → Int
  | 0 => 0
  | k + 1 => if (l[k]!.st == s) = true then wrap64 (cnt s l k + 1) else cnt s l k
def lvs (l : List Bk) : Nat → Int
  | 0 => 0
  | k + 1 => wrap64 (lvs l k + l[k]!.lv)
theorem cnt_at {s : Int} {l : List Bk} {k : Nat} {y : Bk} (h : l[k]! = y) : cnt s l (k + 1) = if (y.st == s) = true then wrap64 (cnt s l k + 1) else cnt s l k := by subst h; rfl
theorem lvs_at {l : List Bk} {k : Nat} {y : Bk} (h : l[k]! = y) : lvs l (k + 1) = wrap64 (lvs l k + y.lv) := by subst h; rfl


theorem best_yes {fit : Bk → Bool} {bt : Bk → Bk → Bool} {l : List Bk} {k : Nat} {y : Bk} (hy : l[k]! = y) (hf : fit y = true) (h : best fit bt l k < 0) : best fit bt l (k + 1) = k := by
  subst hy
  simp only [best]
  rw [hf, decide_eq_true h]
  rfl
theorem best_no {fit : Bk → Bool} {bt : Bk → Bk → Bool} {l : List Bk} {k : Nat} {y : Bk} (hy : l[k]! = y) (hf : fit y = false) : best fit bt l (k + 1) = best fit bt l k := by
  subst hy
  simp only [best]
  rw [hf]
  rfl
theorem best_bt {fit : Bk → Bool} {bt : Bk → Bk → Bool} {l : List Bk} {k q : Nat} {x y : Bk} (hy : l[k]! = y) (hf : fit y = true) (hq : best fit bt l k = (q : Int)) (hx : l[q]! = x) :
    best fit bt l (k + 1) = if bt y x = true then (k : Int) else (q : Int) := by
  subst hy hx
  simp only [best]
  rw [hf, hq, Int.toNat_natCast, decide_eq_false (show ¬ (q : Int) < 0 by omega), Bool.true_and, Bool.false_or]

/-- what the first so many blocks are, one by one -/
def Rk (l : List Bk) (p : Int) (k : Nat) : Prop := ∀ j, j < k → Rb p l[j]!
theorem Rk_all (l : List Bk) (p : Int) (h1 : 1 ≤ p) (h2 : p ≤ 32) (h : Rk l p l.length) : Rt l p := ⟨⟨h1, h2⟩, fun b hb => by obtain ⟨j, hj, rfl⟩ := mem_getB l b hb; exact h j hj⟩
theorem Rk_no (l : List Bk) (p : Int) (k : Nat) (hk : k < l.length) (h : ¬ Rb p l[k]!) : ¬ Rt l p := fun g => h (g.2 _ (getB_mem l k hk))
theorem Rk_step (l : List Bk) (p : Int) (k : Nat) (h : Rk l p k) (g : Rb p l[k]!) : Rk l p (k + 1) := fun j hj => by
  by_cases e : j = k
  · subst e; exact g
  · exact h j (by omega)
theorem wearAt_yes {bt : Bk → Bk → Bool} {l : List Bk} {k : Nat} {y : Bk} (hy : l[k]! = y) (h : best good bt l (k + 1) = k) : wearAt bt l (k + 1) = y.wr := by
  subst hy
  unfold wearAt
  rw [h, if_neg (by omega), Int.toNat_natCast]
theorem wearAt_no {bt : Bk → Bk → Bool} {l : List Bk} {k : Nat} (h : best good bt l (k + 1) = best good bt l k) : wearAt bt l (k + 1) = wearAt bt l k := by
  unfold wearAt
  rw [h]
theorem wearAt_of {bt : Bk → Bk → Bool} {l : List Bk} {k : Nat} (h : ¬ best good bt l k < 0) : wearAt bt l k = l[(best good bt l k).toNat]!.wr := by
  unfold wearAt
  rw [if_neg h]

/-- how the best Wear goes on, block by block -/
theorem wear_step (cmp : Int → Int → Bool) (l : List Bk) (k : Nat) (y : Bk) (hy : l[k]! = y) :
    wearAt (fun a b => cmp a.wr b.wr) l (k + 1) = (if (good y && (!decide (0 ≤ best good (fun a b => cmp a.wr b.wr) l k) || cmp y.wr (wearAt (fun a b => cmp a.wr b.wr) l k))) = true then y.wr else wearAt (fun a b => cmp a.wr b.wr) l k) ∧
    decide (0 ≤ best good (fun a b => cmp a.wr b.wr) l (k + 1)) = (good y || decide (0 ≤ best good (fun a b => cmp a.wr b.wr) l k)) := by
  cases hg : good y with
  | false =>
    have e := best_no (bt := fun a b => cmp a.wr b.wr) hy hg
    exact ⟨by rw [wearAt_no e]; rfl, by rw [e]; rfl⟩
  | true =>
    by_cases h0 : best good (fun a b => cmp a.wr b.wr) l k < 0
    · have e := best_yes hy hg h0
      have d : decide (0 ≤ best good (fun a b => cmp a.wr b.wr) l k) = false := decide_eq_false (by omega)
      refine ⟨?_, ?_⟩
      · rw [wearAt_yes hy e, d]; rfl
      · rw [e, decide_eq_true (by omega)]; rfl
    · obtain ⟨q, hq⟩ : ∃ q : Nat, best good (fun a b => cmp a.wr b.wr) l k = q := ⟨_, (Int.toNat_of_nonneg (by omega)).symm⟩
      have e := best_bt hy hg hq rfl
      have ew : wearAt (fun a b => cmp a.wr b.wr) l k = l[q]!.wr := by rw [wearAt_of h0, hq, Int.toNat_natCast]
      have d : decide (0 ≤ best good (fun a b => cmp a.wr b.wr) l k) = true := decide_eq_true (by omega)
      rw [ew, d]
      cases hc : cmp y.wr l[q]!.wr with
      | true =>
        rw [if_pos (show cmp y.wr l[q]!.wr = true from hc)] at e
        exact ⟨by rw [wearAt_yes hy e]; rfl, by rw [e, decide_eq_true (by omega)]; rfl⟩
      | false =>
        rw [if_neg (show ¬ cmp y.wr l[q]!.wr = true by rw [hc]; exact Bool.false_ne_true)] at e
        exact ⟨by rw [wearAt_no (e.trans hq.symm), ew]; rfl, by rw [e, decide_eq_true (by omega)]; rfl⟩
end Gcm

/-
  Slices of blocks that came in or were made: what they read as. Nothing of one statement alone stands here.
-/
namespace Gcm
open Go
/-- a block as a value -/
def Bk.v (b : Bk) : Value := .agg #[.int .i64 b.st, .int .i64 b.lv, .int .i64 b.wr, .int .i64 b.nx]
/-- a block's cells, from a place on -/
def At (w : World) (b off : Nat) (x : Bk) : Prop :=
  w.cell? ⟨b, off, none⟩ = some (.int .i64 x.st) ∧ w.cell? ⟨b, off + 1, none⟩ = some (.int .i64 x.lv) ∧ w.cell? ⟨b, off + 2, none⟩ = some (.int .i64 x.wr) ∧ w.cell? ⟨b, off + 3, none⟩ = some (.int .i64 x.nx)
def I64 (n : Int) : Prop := -9223372036854775808 ≤ n ∧ n ≤ 9223372036854775807
def Bw (b : Bk) : Prop := I64 b.st ∧ I64 b.lv ∧ I64 b.wr ∧ I64 b.nx
end Gcm
namespace Go.Proofs.YtbfifppdcmimaaaGreat
open Go.RowKit Gcm Go.ChangeShapes Go.Joins

theorem i64_wf {n : Int} (h : (Lit.int .i64 n).wf = true) : I64 n := by have := bounds_i64 h; unfold I64; omega

def Ad (w : World) (ad : Addr) (i : Nat) (y : Bk) : Prop :=
  Bw y ∧ w.cell? (ad.add (i * 4 + 0)) = some (.int .i64 y.st) ∧ w.cell? (ad.add (i * 4 + 1)) = some (.int .i64 y.lv) ∧ w.cell? (ad.add (i * 4 + 2)) = some (.int .i64 y.wr) ∧ w.cell? (ad.add (i * 4 + 3)) = some (.int .i64 y.nx)
/-- what is told of a slice of blocks that came in -/
def RowG (w : World) (a : Option Addr) (len cap : Nat) (l : List Bk) : Prop :=
  (a = none ∧ len = 0 ∧ cap = 0 ∧ l = []) ∨ ∃ ad, a = some ad ∧ len ≤ cap ∧ cap ≤ maxLen ∧ l.length = cap ∧ ∀ j, j < cap → Ad w ad j l[j]!

/-- a row of blocks where a slice says that it is -/
def Rg (w : World) (a : Option Addr) (l : List Bk) : Prop :=
  (∀ x ∈ l, Bw x) ∧ l.length ≤ maxLen ∧ (l = [] ∨ ∃ b off, a = some ⟨b, off, none⟩ ∧ ∀ j, j < l.length → At w b (off + j * 4) l[j]!)

theorem choose_list {α : Type} [Inhabited α] (m : Nat) (p : Nat → α → Prop) (h : ∀ i, i < m → ∃ x, p i x) : ∃ l : List α, l.length = m ∧ ∀ i, i < m → p i l[i]! := by
  obtain ⟨f, hf⟩ := Go.Deep.choose_lt h
  refine ⟨(List.range m).map f, by simp, fun i hi => ?_⟩
  rw [getElem!_pos _ _ (by simpa using hi)]
  simpa using hf i hi

theorem Tryz.cellsG : Tryz.prog.cellsOf 144 = 4 := by kernel_rfl
theorem Tryz.cellsI : Tryz.prog.cellsOf 3 = 1 := by kernel_rfl

set_option maxRecDepth 100000 in
theorem rowG_open {H : Type} {enc : TypeId × Value → H} {W : World} {held : Bool} {fuel : Nat} {a : Option Addr} {len cap : Nat} {x : DataW H × List MemPlace}
    (h : DataW.trod enc Tryz.prog W 0 (fun _ => true) held fuel 119 [.slice a len cap] = some x) : ∃ l, RowG W a len cap l := by
  rcases Go.Deep.open_slice Tryz.underlying119 h with ⟨hcs, _⟩ | ⟨ad, ln, cp, m, n, D, Pl, hcs, _, hl, hm, hmm, _, hi⟩
  · simp at hcs
    obtain ⟨rfl, rfl, rfl⟩ := hcs
    exact ⟨[], .inl ⟨rfl, rfl, rfl, rfl⟩⟩
  · simp at hcs
    obtain ⟨rfl, rfl, rfl⟩ := hcs
    simp at hmm
    subst hmm
    have each : ∀ i, i < m → ∃ y : Bk, Ad W ad i y := by
      intro i him
      obtain ⟨cs', hc, ht⟩ := hi i him
      rw [Tryz.cellsG] at hc
      obtain ⟨_, hcl, hat⟩ := World.cells?_some hc
      obtain ⟨y0, y1, y2, y3, k, _, _, h0, h1, h2, h3⟩ := trod_struct4 Tryz.underlying144 ht
      match cs', hcl with
      | [c0, c1, c2, c3], _ =>
        simp only [Tryz.cellsI] at h0 h1 h2 h3
        simp at h0 h1 h2 h3
        obtain ⟨z0, e0, -, q0⟩ := DataW.trod_int Tryz.underlying3 h0
        obtain ⟨z1, e1, -, q1⟩ := DataW.trod_int Tryz.underlying3 h1
        obtain ⟨z2, e2, -, q2⟩ := DataW.trod_int Tryz.underlying3 h2
        obtain ⟨z3, e3, -, q3⟩ := DataW.trod_int Tryz.underlying3 h3
        simp at e0 e1 e2 e3
        subst e0 e1 e2 e3
        have g0 := hat 0 (by omega)
        have g1 := hat 1 (by omega)
        have g2 := hat 2 (by omega)
        have g3 := hat 3 (by omega)
        rw [Go.Deep.add_add] at g0 g1 g2 g3
        exact ⟨⟨z0, z1, z2, z3⟩, ⟨i64_wf q0, i64_wf q1, i64_wf q2, i64_wf q3⟩, by simpa using g0, by simpa using g1, by simpa using g2, by simpa using g3⟩
    obtain ⟨l, hll, hlf⟩ := choose_list m _ each
    exact ⟨l, .inr ⟨ad, rfl, hl, hm, hll, hlf⟩⟩

theorem take_getB (l : List Bk) (n j : Nat) (h : j < n) (h2 : n ≤ l.length) : (l.take n)[j]! = l[j]! := by
  rw [getElem!_pos _ _ (by rw [List.length_take]; omega), getElem!_pos _ _ (by omega), List.getElem_take]

theorem RowG.rg {w : World} {a : Option Addr} {len cap : Nat} {l : List Bk} (h : RowG w a len cap l) : ∃ m : List Bk, m.length = len ∧ len ≤ cap ∧ Rg w a m := by
  rcases h with ⟨rfl, rfl, rfl, rfl⟩ | ⟨ad, rfl, hl, hm, hz, hc⟩
  · exact ⟨[], rfl, Nat.le_refl _, ⟨by simp, by simp, .inl rfl⟩⟩
  · refine ⟨l.take len, by rw [List.length_take]; omega, hl, ⟨fun y hy => ?_, by rw [List.length_take]; omega, ?_⟩⟩
    · obtain ⟨j, hj, rfl⟩ := mem_getB _ y hy
      rw [List.length_take] at hj
      rw [take_getB l len j (by omega) (by omega)]
      exact (hc j (by omega)).1
    by_cases h0 : len = 0
    · left; subst h0; rfl
    · right
      obtain ⟨b, off, spot⟩ := ad
      have hc0 := (hc 0 (by omega)).2.1
      have hspot : spot = none := by simpa [Addr.add] using World.cell?_spot hc0
      subst hspot
      refine ⟨b, off, rfl, fun j hj => ?_⟩
      rw [List.length_take] at hj
      rw [take_getB l len j (by omega) (by omega)]
      have := (hc j (by omega)).2
      rw [Addr.add_lit, Addr.add_lit, Addr.add_lit, Addr.add_lit] at this
      exact this

theorem at_below {w w' : World} {b off : Nat} {x : Bk} (h : At w b off x) (hb : Below w.heap.size w w') : At w' b off x := by
  obtain ⟨h0, h1, h2, h3⟩ := h
  have hlt := block_lt_of_cell h0
  exact ⟨(hb.cell (p := ⟨b, off, none⟩) hlt).trans h0, (hb.cell (p := ⟨b, off + 1, none⟩) hlt).trans h1, (hb.cell (p := ⟨b, off + 2, none⟩) hlt).trans h2, (hb.cell (p := ⟨b, off + 3, none⟩) hlt).trans h3⟩
theorem Rg.below {w w' : World} {a : Option Addr} {l : List Bk} (h : Rg w a l) (hb : Below w.heap.size w w') : Rg w' a l := by
  obtain ⟨h1, h2, h3⟩ := h
  refine ⟨h1, h2, ?_⟩
  rcases h3 with h3 | ⟨b, off, rfl, h3⟩
  · exact .inl h3
  · exact .inr ⟨b, off, rfl, fun j hj => at_below (h3 j hj) hb⟩
theorem Rg.nil {w : World} {a : Option Addr} : Rg w a [] := ⟨by simp, by simp, .inl rfl⟩
end Go.Proofs.YtbfifppdcmimaaaGreat

/-
  Which rows of blocks are right: the program's answer and the document's. Nothing of one statement alone stands here.
-/
namespace Go.Proofs.YtbfifppdcmimaaaGreat
open Go.RowKit Gcm Go.ChangeShapes

theorem gbool {a b : Bool} (h : a = b) : Ending.returned (.bool a) = .returned (.bool b) := by rw [h]
theorem gd {b : Bool} {p : Prop} [Decidable p] (h : b = true ↔ p) : b = decide p := by
  cases b with
  | true => exact (decide_eq_true (h.1 rfl)).symm
  | false => exact (decide_eq_false (fun g => by have := h.2 g; cases this)).symm
theorem gint {a b : Int} (h : a = b) : Ending.returned (.int .i64 a) = .returned (.int .i64 b) := by rw [h]

set_option maxRecDepth 100000 in
set_option maxHeartbeats 400000 in
theorem rightBlock_any (st lv wr nx p : Int) (_hp : 1 ≤ p) (w : World) :
    Calls Tryz.prog 160 #[.agg #[.int .i64 st, .int .i64 lv, .int .i64 wr, .int .i64 nx], .int .i64 p] w fun e w' => e = .returned (.bool (decide (Rb p ⟨st, lv, wr, nx⟩))) ∧ Below w.heap.size w w' := by
  by_cases h : st = 0 ∨ st = 3 ∨ st = 4
  · rcases h with rfl | rfl | rfl
    all_goals
      go_enter Tryz.func160, Tryz.ntmps160
      go_wp2
      all_goals go_ret
      all_goals refine ⟨gbool (gd ?_), (Below.refl _ _).alloc (Nat.le_refl _) _⟩
      all_goals (simp only [Rb, decide_eq_true_eq, Bool.false_eq_true]; constructor <;> intro hh <;> first | exact hh.elim | omega | exact ⟨by omega, by omega, by omega, by omega, by omega, by omega, by omega, by omega, by first | omega | (intro _; simp)⟩)
  by_cases h2 : st = 1 ∨ st = 2
  · clear h
    rcases h2 with rfl | rfl
    all_goals
      go_enter Tryz.func160, Tryz.ntmps160
      go_wp2
      all_goals go_ret
      all_goals refine ⟨gbool (gd ?_), (Below.refl _ _).alloc (Nat.le_refl _) _⟩
      all_goals (simp only [Rb, decide_eq_true_eq, Bool.false_eq_true]; constructor <;> intro hh <;> first | exact hh.elim | omega | exact ⟨by omega, by omega, by omega, by omega, by omega, by omega, by omega, by omega, by first | omega | (intro _; simp)⟩)
  · have H := Lib.hid (show ¬ Rb p ⟨st, lv, wr, nx⟩ by simp only [Rb]; omega)
    have e0 : (st == 0) = false := by simp; omega
    have e1 : (st == 1) = false := by simp; omega
    have e2 : (st == 2) = false := by simp; omega
    have e3 : (st == 3) = false := by simp; omega
    have e4 : (st == 4) = false := by simp; omega
    clear h h2
    go_enter Tryz.func160, Tryz.ntmps160
    go_wp2
    go_ret
    exact ⟨gbool (decide_eq_false H.out).symm, (Below.refl _ _).alloc (Nat.le_refl _) _⟩

/-- a function with a body of its own is entered -/
theorem enters_go {f : FuncId} {fn : Func} {c : Code} (h : Tryz.prog.funcs[f]? = some fn) (hn : (fn.name == "runtime.NumGoroutine") = false) (hb : fn.body = some c) :
    ∀ args w, (callFunc f args).run Tryz.prog w = .ok (.enter f args) w := by
  intro args w
  have : fn.name ≠ "runtime.NumGoroutine" := by simpa using hn
  simp [callFunc, h, this, hb, mark]

/-- what a function value says of the blocks of a row, in each world that is later than w -/
def PredOn (g : Nat) (lb : Array Value) (p : Bk → Bool) (l : List Bk) (w : World) : Prop :=
  ∀ (W : World) (x : Bk), x ∈ l → Below w.heap.size w W → Calls Tryz.prog g (#[x.v] ++ lb) W fun e w' => e = .returned (.bool (p x)) ∧ Below W.heap.size W w'
theorem PredOn.later {g : Nat} {lb : Array Value} {p : Bk → Bool} {l : List Bk} {w w' : World} (h : PredOn g lb p l w) (hb : Below w.heap.size w w') : PredOn g lb p l w' :=
  fun W x hx hW => h W x hx (hb.trans (hW.mono hb.size))

theorem right1 (l : List Bk) (p : Int) (hp : 1 ≤ p) (w : World) (B : Nat) (hc : w.cell? ⟨B, 0, none⟩ = some (.int .i64 p)) :
    PredOn 159 #[.pointer (some ⟨B, 0, none⟩)] (fun b => !decide (Rb p b)) l w := fun W x _ hb => by
  have hB := block_lt_of_cell hc
  have hc' : W.cell? ⟨B, 0, none⟩ = some (.int .i64 p) := (hb.cell (p := ⟨B, 0, none⟩) hB).trans hc
  have hBW : B < W.heap.size := Nat.lt_of_lt_of_le hB hb.size
  have hne : B ≠ W.heap.size := by omega
  obtain ⟨st, lv, wr, nx⟩ := x
  have HC := Lib.hid (fun w => rightBlock_any st lv wr nx p hp w)
  clear hp hc hb hB
  show Calls Tryz.prog 159 #[.agg #[.int .i64 st, .int .i64 lv, .int .i64 wr, .int .i64 nx], .pointer (some ⟨B, 0, none⟩)] W fun e w' => e = .returned (.bool (!decide (Rb p ⟨st, lv, wr, nx⟩))) ∧ Below W.heap.size W w'
  generalize decide (Rb p ⟨st, lv, wr, nx⟩) = r at HC ⊢
  go_enter Tryz.func159, Tryz.ntmps159
  go_wp2_with fail
  refine (HC.out _).mono ?_
  rintro e w' ⟨rfl, hb⟩
  go_wp2
  go_ret
  exact ⟨rfl, ((Below.refl _ _).alloc (Nat.le_refl _) _).trans (hb.mono (by simp))⟩


end Go.Proofs.YtbfifppdcmimaaaGreat

/-
  Rows of blocks of a call's own: copied, and one block written over. Nothing of one statement alone stands here.
-/
namespace Gcm
open Go
/-- blocks as cells, one behind the other -/
def flat : List Bk → List Value
  | [] => []
  | b :: r => .int .i64 b.st :: .int .i64 b.lv :: .int .i64 b.wr :: .int .i64 b.nx :: flat r
theorem flat_length (l : List Bk) : (flat l).length = l.length * 4 := by
  induction l with
  | nil => rfl
  | cons b r ih => simp [flat, ih]; omega
theorem flat_one (l : List Bk) : ∀ u ∈ flat l, u.oneCell' = true := by
  induction l with
  | nil => intro u h; cases h
  | cons b r ih =>
    intro u h
    simp only [flat, List.mem_cons] at h
    rcases h with rfl | rfl | rfl | rfl | h
    · rfl
    · rfl
    · rfl
    · rfl
    · exact ih u h
theorem flat_at (l : List Bk) (q : Nat) (h : q < l.length) : (flat l)[q * 4]? = some (.int .i64 l[q]!.st) ∧ (flat l)[q * 4 + 1]? = some (.int .i64 l[q]!.lv) ∧ (flat l)[q * 4 + 2]? = some (.int .i64 l[q]!.wr) ∧ (flat l)[q * 4 + 3]? = some (.int .i64 l[q]!.nx) := by
  induction l generalizing q with
  | nil => simp at h
  | cons b r ih =>
    cases q with
    | zero => exact ⟨rfl, rfl, rfl, rfl⟩
    | succ q =>
      have := ih q (by simpa using h)
      rw [show (q + 1) * 4 = q * 4 + 1 + 1 + 1 + 1 by omega]
      exact this
theorem flat_cells (w : World) (b : Nat) (l : List Bk) (off : Nat) (h : ∀ j, j < l.length → At w b (off + j * 4) l[j]!) (j : Nat) (u : Value) (hu : (flat l)[j]? = some u) : w.cell? ⟨b, off + j, none⟩ = some u := by
  induction l generalizing off j with
  | nil => simp [flat] at hu
  | cons x r ih =>
    have h0 := h 0 (by simp)
    obtain ⟨c0, c1, c2, c3⟩ := h0
    have hr : ∀ j, j < r.length → At w b (off + 4 + j * 4) r[j]! := fun j hj => by
      have := h (j + 1) (by simp; omega)
      rw [show off + (j + 1) * 4 = off + 4 + j * 4 by omega] at this
      exact this
    match j, hu with
    | 0, hu => simp only [flat, List.getElem?_cons_zero, Option.some.injEq] at hu; rw [← hu]; exact c0
    | 1, hu => simp only [flat, List.getElem?_cons_succ, List.getElem?_cons_zero, Option.some.injEq] at hu; rw [← hu]; exact c1
    | 2, hu => simp only [flat, List.getElem?_cons_succ, List.getElem?_cons_zero, Option.some.injEq] at hu; rw [← hu]; exact c2
    | 3, hu => simp only [flat, List.getElem?_cons_succ, List.getElem?_cons_zero, Option.some.injEq] at hu; rw [← hu]; exact c3
    | j + 4, hu =>
      simp only [flat, List.getElem?_cons_succ] at hu
      have := ih (off + 4) hr j hu
      rw [show off + (j + 4) = off + 4 + j by omega]
      exact this
theorem set_getB (l : List Bk) (k j : Nat) (b : Bk) (hj : j < l.length) : (l.set k b)[j]! = if k = j then b else l[j]! := by
  rw [getElem!_pos (l.set k b) j (by simpa using hj), getElem!_pos l j hj, List.getElem_set]
end Gcm
namespace Go.Proofs.YtbfifppdcmimaaaGreat
open Go.RowKit Gcm Go.ChangeShapes

/-- a row of blocks in a block of memory that is the call's own -/
def OwnB (w : World) (g : Nat) (l : List Bk) : Prop :=
  ∃ cur : Array Value, Blk w g 144 cur ∧ ∀ j, j < l.length → cur[j * 4]? = some (.int .i64 l[j]!.st) ∧ cur[j * 4 + 1]? = some (.int .i64 l[j]!.lv) ∧ cur[j * 4 + 2]? = some (.int .i64 l[j]!.wr) ∧ cur[j * 4 + 3]? = some (.int .i64 l[j]!.nx)
theorem OwnB.at {w : World} {g : Nat} {l : List Bk} (h : OwnB w g l) (j : Nat) (hj : j < l.length) : At w g (j * 4) l[j]! := by
  obtain ⟨cur, hb, hc⟩ := h
  obtain ⟨c0, c1, c2, c3⟩ := hc j hj
  exact ⟨(hb.cell _).trans c0, (hb.cell _).trans c1, (hb.cell _).trans c2, (hb.cell _).trans c3⟩
theorem OwnB.frozen {w : World} {g : Nat} {l : List Bk} (h : OwnB w g l) (i : Nat) : w.frozen? ⟨g, i, none⟩ = false := by
  obtain ⟨cur, hb, _⟩ := h
  exact hb.frozen i
theorem OwnB.below {w w' : World} {B g : Nat} {l : List Bk} (h : OwnB w g l) (hb : Below B w w') (hg : g < B) : OwnB w' g l := by
  obtain ⟨cur, h1, h2⟩ := h
  exact ⟨cur, h1.below hb hg, h2⟩
theorem OwnB.lt {w : World} {g : Nat} {l : List Bk} (h : OwnB w g l) : g < w.heap.size := by
  obtain ⟨cur, h1, _⟩ := h
  exact h1.lt
theorem OwnB.rg {w : World} {g : Nat} {l : List Bk} (h : OwnB w g l) (hz : ∀ x ∈ l, Bw x) (hm : l.length ≤ maxLen) : Rg w (some ⟨g, 0, none⟩) l :=
  ⟨hz, hm, .inr ⟨g, 0, rfl, fun j hj => by rw [Nat.zero_add]; exact h.at j hj⟩⟩
/-- a block of a row, written over -/
def ov4 (w : World) (g o : Nat) (b : Bk) : World := (((w.setCell ⟨g, o, none⟩ (.int .i64 b.st)).setCell ⟨g, o + 1, none⟩ (.int .i64 b.lv)).setCell ⟨g, o + 2, none⟩ (.int .i64 b.wr)).setCell ⟨g, o + 3, none⟩ (.int .i64 b.nx)
theorem ov4_below {w0 w : World} {B g o : Nat} {b : Bk} (h : Below B w0 w) (hg : B ≤ g) : Below B w0 (ov4 w g o b) := by
  unfold ov4
  exact (((h.setCell (p := ⟨g, o, none⟩) hg _).setCell (p := ⟨g, o + 1, none⟩) hg _).setCell (p := ⟨g, o + 2, none⟩) hg _).setCell (p := ⟨g, o + 3, none⟩) hg _
theorem OwnB.put {w : World} {g : Nat} {l : List Bk} (h : OwnB w g l) (k : Nat) (hk : k < l.length) (b : Bk) : OwnB (ov4 w g (k * 4) b) g (l.set k b) := by
  obtain ⟨cur, h1, h2⟩ := h
  refine ⟨_, (((h1.put (k * 4) (.int .i64 b.st)).put (k * 4 + 1) (.int .i64 b.lv)).put (k * 4 + 2) (.int .i64 b.wr)).put (k * 4 + 3) (.int .i64 b.nx), fun j hj => ?_⟩
  rw [List.length_set] at hj
  rw [set_getB l k j b hj]
  obtain ⟨d0, d1, d2, d3⟩ := h2 k hk
  have s0 := (Array.getElem?_eq_some_iff.1 d0).1
  have s1 := (Array.getElem?_eq_some_iff.1 d1).1
  have s2 := (Array.getElem?_eq_some_iff.1 d2).1
  have s3 := (Array.getElem?_eq_some_iff.1 d3).1
  obtain ⟨c0, c1, c2, c3⟩ := h2 j hj
  simp only [Array.getElem?_setIfInBounds, Array.size_setIfInBounds]
  by_cases e : k = j
  · subst e
    have e1 : (if k = k then b else l[k]!) = b := if_pos rfl
    rw [e1]
    refine ⟨?_, ?_, ?_, ?_⟩
    · rw [if_neg (by omega), if_neg (by omega), if_neg (by omega), if_pos rfl, if_pos s0]
    · rw [if_neg (by omega), if_neg (by omega), if_pos rfl, if_pos s1]
    · rw [if_neg (by omega), if_pos rfl, if_pos s2]
    · rw [if_pos rfl, if_pos s3]
  · rw [if_neg e]
    refine ⟨?_, ?_, ?_, ?_⟩
    · rw [if_neg (by omega), if_neg (by omega), if_neg (by omega), if_neg (by omega)]; exact c0
    · rw [if_neg (by omega), if_neg (by omega), if_neg (by omega), if_neg (by omega)]; exact c1
    · rw [if_neg (by omega), if_neg (by omega), if_neg (by omega), if_neg (by omega)]; exact c2
    · rw [if_neg (by omega), if_neg (by omega), if_neg (by omega), if_neg (by omega)]; exact c3

theorem Tryz.infoG : (Tryz.prog.info? 144).map (fun i => (i.zero, i.size, i.bytes)) = some (some (.agg #[.int .i64 0, .int .i64 0, .int .i64 0, .int .i64 0]), 4, 32) := by kernel_rfl
theorem infoG_parts : ∃ i, Tryz.prog.info? 144 = some i ∧ i.zero = some (.agg #[.int .i64 0, .int .i64 0, .int .i64 0, .int .i64 0]) ∧ i.size = 4 ∧ i.bytes = 32 := by
  have h := Tryz.infoG
  cases hi : Tryz.prog.info? 144 with
  | none => rw [hi] at h; cases h
  | some i =>
    rw [hi] at h
    simp only [Option.map_some, Option.some.injEq, Prod.mk.injEq] at h
    exact ⟨i, rfl, h.1, h.2.1, h.2.2⟩

/-- append of a row of blocks onto none -/
theorem append_blocks {w : World} {ops : Array Oper} {rest : List Oper} {o : Oper} {a : Act} {Q : Exit → Act → World → Prop} (hgd : o.guard = none) (s x : Operand)
    (ho : o.op = .call { callee := .builtin .append, args := #[s, x], argTypes := #[119, 119] })
    (base : Nat) (v : Value) (hs : a.eval s = v) (hown : w.ownsRow base 144 4 v 0 [])
    (b off m c : Nat) (l : List Bk) (hx : a.eval x = .slice (some ⟨b, off, none⟩) m c) (hl : l.length = m) (hm0 : 0 < m) (hm : m ≤ 1000000) (hc : ∀ j, j < l.length → At w b (off + j * 4) l[j]!) (hbase : base ≤ w.heap.size)
    (h : ∀ g c' w', OwnB w' g l → base ≤ g → m ≤ c' → Below base w w' → wpList Tryz.prog ops Q rest (a.put o.dst (.slice (some ⟨g, 0, none⟩) m c')) w') : wpList Tryz.prog ops Q (o :: rest) a w := by
  obtain ⟨i0, hi, hz0, hz1, hz2⟩ := infoG_parts
  refine wpList_append_own w hgd s x 119 ho base 144 i0 _ 4 32 Tryz.underlying119 hi hz0 hz1 hz2 rfl (by decide) v 0 [] hs hown ⟨b, off, none⟩ m c (flat l) hx (by rw [flat_length, hl]) ?_ (flat_one l) (by unfold maxLen; omega) (by omega) hbase ?_
  · intro j u hu
    rw [Addr.add_lit]
    exact flat_cells w b l off hc j u hu
  · intro v' w' h1 h2 _
    rw [Nat.zero_add, List.nil_append] at h1
    obtain ⟨hlen, h1⟩ := h1
    rcases h1 with ⟨rfl, h0⟩ | ⟨g, cap, cur, rfl, hg, hheap, hn, _, hsz, ht⟩
    · omega
    · refine h g cap w' ⟨cur, hheap, fun j hj => ?_⟩ hg hn ((Below.refl _ w).grown h2 hbase (fun g hg => (hown.lt g hg).1))
      obtain ⟨f0, f1, f2, f3⟩ := flat_at l j hj
      have e : ∀ i, i < m * 4 → cur[i]? = (flat l)[i]? := fun i hi => by rw [← ht, List.getElem?_take, if_pos hi, Array.getElem?_toList]
      exact ⟨(e _ (by omega)).trans f0, (e _ (by omega)).trans f1, (e _ (by omega)).trans f2, (e _ (by omega)).trans f3⟩
end Go.Proofs.YtbfifppdcmimaaaGreat
