/-
  Rows of blocks in plain numbers: which rows are right, what is best in one, what is to be done next.
-/
import Derived.Lib.Hide
namespace Gcm
structure Bk where
  st : Int
  lv : Int
  wr : Int
  nx : Int
instance : Inhabited Bk := ⟨⟨0, 0, 0, 0⟩⟩

/-- a block that may stand in a row that is right -/
def Rb (pages : Int) (b : Bk) : Prop :=
  0 ≤ b.st ∧ b.st ≤ 4 ∧ 0 ≤ b.lv ∧ b.lv ≤ pages ∧ 0 ≤ b.nx ∧ b.nx ≤ pages ∧ 0 ≤ b.wr ∧ b.wr ≤ 1099511627776 ∧ (0 < b.lv → b.st = 1 ∨ b.st = 2)
instance (pages : Int) (b : Bk) : Decidable (Rb pages b) := by unfold Rb; infer_instance
/-- a right row -/
def Rt (l : List Bk) (pages : Int) : Prop := (1 ≤ pages ∧ pages ≤ 32) ∧ ∀ b ∈ l, Rb pages b
instance (l : List Bk) (pages : Int) : Decidable (Rt l pages) := by unfold Rt; infer_instance

/-- the place of the best of the first so many -/
def best (fit : Bk → Bool) (bt : Bk → Bk → Bool) (l : List Bk) : Nat → Int
  | 0 => -1
  | k + 1 => if fit l[k]! && (decide (best fit bt l k < 0) || bt l[k]! l[(best fit bt l k).toNat]!) then (k : Int) else best fit bt l k

theorem best_ge (fit : Bk → Bool) (bt : Bk → Bk → Bool) (l : List Bk) (k : Nat) : -1 ≤ best fit bt l k := by
  induction k with
  | zero => simp [best]
  | succ k ih => simp only [best]; split <;> omega
theorem best_lt (fit : Bk → Bool) (bt : Bk → Bk → Bool) (l : List Bk) (k : Nat) : best fit bt l k < k := by
  induction k with
  | zero => simp [best]
  | succ k ih => simp only [best]; split <;> omega
theorem best_fit (fit : Bk → Bool) (bt : Bk → Bk → Bool) (l : List Bk) (k : Nat) (h : 0 ≤ best fit bt l k) : fit l[(best fit bt l k).toNat]! = true := by
  induction k with
  | zero => simp [best] at h
  | succ k ih =>
    simp only [best] at h ⊢
    split
    · next c => simp only [Bool.and_eq_true] at c; simpa using c.1
    · next c => rw [if_neg c] at h; exact ih h
theorem best_none (fit : Bk → Bool) (bt : Bk → Bk → Bool) (l : List Bk) (k : Nat) : best fit bt l k < 0 ↔ ∀ j, j < k → fit l[j]! = false := by
  induction k with
  | zero => simp [best]
  | succ k ih =>
    simp only [best]
    constructor
    · intro h j hj
      split at h
      · omega
      · next c =>
        by_cases e : j = k
        · subst e
          cases hf : fit l[j]! with
          | false => rfl
          | true => exact absurd (by rw [hf, decide_eq_true h]; rfl) c
        · exact ih.1 h j (by omega)
    · intro h
      rw [if_neg (by rw [h k (by omega), Bool.false_and]; exact Bool.false_ne_true)]
      exact ih.2 fun j hj => h j (by omega)
/-- nothing that fits is better than what is best -/
theorem best_min (fit : Bk → Bool) (bt : Bk → Bk → Bool) (l : List Bk) (k : Nat) (irr : ∀ a, bt a a = false) (tr : ∀ a b c, bt a b = true → bt b c = true → bt a c = true)
    (h : 0 ≤ best fit bt l k) (j : Nat) (hj : j < k) (hf : fit l[j]! = true) : bt l[j]! l[(best fit bt l k).toNat]! = false := by
  induction k with
  | zero => omega
  | succ k ih =>
    by_cases c : (fit l[k]! && (decide (best fit bt l k < 0) || bt l[k]! l[(best fit bt l k).toNat]!)) = true
    · have e : best fit bt l (k + 1) = (k : Int) := by simp only [best]; rw [if_pos c]
      rw [e, Int.toNat_natCast]
      by_cases e2 : j = k
      · rw [e2]; exact irr _
      · simp only [Bool.and_eq_true, Bool.or_eq_true, decide_eq_true_eq] at c
        rcases c.2 with h0 | h1
        · have := (best_none fit bt l k).1 h0 j (by omega)
          rw [this] at hf; cases hf
        · by_cases h0 : best fit bt l k < 0
          · have := (best_none fit bt l k).1 h0 j (by omega)
            rw [this] at hf; cases hf
          · have h2 := ih (by omega) (by omega)
            cases h3 : bt l[j]! l[k]! with
            | false => rfl
            | true => rw [tr _ _ _ h3 h1] at h2; cases h2
    · have e : best fit bt l (k + 1) = best fit bt l k := by simp only [best]; rw [if_neg c]
      rw [e] at h ⊢
      by_cases e2 : j = k
      · subst e2
        cases h3 : bt l[j]! l[(best fit bt l j).toNat]! with
        | false => rfl
        | true => exact absurd (by rw [hf, h3, Bool.or_true]; rfl) c
      · exact ih h (by omega)
theorem best_congr (fit fit' : Bk → Bool) (bt bt' : Bk → Bk → Bool) (l : List Bk) (k : Nat) (h1 : ∀ j, j < k → fit l[j]! = fit' l[j]!)
    (h2 : ∀ j i, j < k → i < k → fit' l[j]! = true → fit' l[i]! = true → bt l[j]! l[i]! = bt' l[j]! l[i]!) : best fit bt l k = best fit' bt' l k := by
  induction k with
  | zero => rfl
  | succ k ih =>
    have e := ih (fun j hj => h1 j (by omega)) (fun j i hj hi => h2 j i (by omega) (by omega))
    simp only [best]
    rw [e, h1 k (by omega)]
    cases hf : fit' l[k]! with
    | false => simp
    | true =>
      by_cases h0 : best fit' bt' l k < 0
      · simp [h0]
      · have hl := best_lt fit' bt' l k
        rw [h2 k _ (by omega) (by omega : (best fit' bt' l k).toNat < k + 1) hf (best_fit fit' bt' l k (by omega))]

/-- which is less worn, more worn, or has less that is needed -/
def lw (a b : Bk) : Bool := decide (a.wr < b.wr)
def gw (a b : Bk) : Bool := decide (b.wr < a.wr)
def ll (a b : Bk) : Bool := decide (a.lv < b.lv) || (a.lv == b.lv && decide (a.wr < b.wr))
theorem lw_irr (a : Bk) : lw a a = false := by simp [lw]
theorem gw_irr (a : Bk) : gw a a = false := by simp [gw]
theorem ll_irr (a : Bk) : ll a a = false := by simp [ll]
theorem lw_tr (a b c : Bk) (h : lw a b = true) (g : lw b c = true) : lw a c = true := by simp [lw] at *; omega
theorem gw_tr (a b c : Bk) (h : gw a b = true) (g : gw b c = true) : gw a c = true := by simp [gw] at *; omega
theorem ll_tr (a b c : Bk) (h : ll a b = true) (g : ll b c = true) : ll a c = true := by simp [ll] at *; omega

def good (b : Bk) : Bool := b.st != 4
/-- the Wear of the best block that is not bad -/
def wearAt (bt : Bk → Bk → Bool) (l : List Bk) (k : Nat) : Int := if best good bt l k < 0 then 0 else l[(best good bt l k).toNat]!.wr
def least (l : List Bk) : Int := wearAt lw l l.length
def greatest (l : List Bk) : Int := wearAt gw l l.length

theorem getB_mem (l : List Bk) (j : Nat) (h : j < l.length) : l[j]! ∈ l := by rw [getElem!_pos l j h]; exact List.getElem_mem h
theorem mem_getB (l : List Bk) (b : Bk) (h : b ∈ l) : ∃ j, j < l.length ∧ l[j]! = b := by
  obtain ⟨j, hj, rfl⟩ := List.mem_iff_getElem.1 h
  exact ⟨j, hj, getElem!_pos l j hj⟩
theorem best_mem (fit : Bk → Bool) (bt : Bk → Bk → Bool) (l : List Bk) (h : 0 ≤ best fit bt l l.length) : l[(best fit bt l l.length).toNat]! ∈ l :=
  getB_mem _ _ (by have := best_lt fit bt l l.length; omega)
theorem best_all (fit : Bk → Bool) (bt : Bk → Bk → Bool) (l : List Bk) : best fit bt l l.length < 0 ↔ ∀ b ∈ l, fit b = false := by
  rw [best_none]
  constructor
  · intro h b hb
    obtain ⟨j, hj, rfl⟩ := mem_getB l b hb
    exact h j hj
  · exact fun h j hj => h _ (getB_mem l j hj)
theorem best_least (fit : Bk → Bool) (bt : Bk → Bk → Bool) (l : List Bk) (irr : ∀ a, bt a a = false) (tr : ∀ a b c, bt a b = true → bt b c = true → bt a c = true)
    (h : 0 ≤ best fit bt l l.length) (b : Bk) (hb : b ∈ l) (hf : fit b = true) : bt b l[(best fit bt l l.length).toNat]! = false := by
  obtain ⟨j, hj, rfl⟩ := mem_getB l b hb
  exact best_min fit bt l _ irr tr h j hj hf

theorem least_le (l : List Bk) (b : Bk) (hb : b ∈ l) (hg : b.st ≠ 4) : least l ≤ b.wr := by
  have hgg : good b = true := by simp [good, hg]
  have h0 : ¬ best good lw l l.length < 0 := fun h => by have := (best_all good lw l).1 h b hb; rw [hgg] at this; cases this
  have := best_least good lw l lw_irr lw_tr (by omega) b hb hgg
  unfold least wearAt
  rw [if_neg h0]
  have := of_decide_eq_false (show decide (_ < _) = false from this)
  omega
theorem le_greatest (l : List Bk) (b : Bk) (hb : b ∈ l) (hg : b.st ≠ 4) : b.wr ≤ greatest l := by
  have hgg : good b = true := by simp [good, hg]
  have h0 : ¬ best good gw l l.length < 0 := fun h => by have := (best_all good gw l).1 h b hb; rw [hgg] at this; cases this
  have := best_least good gw l gw_irr gw_tr (by omega) b hb hgg
  unfold greatest wearAt
  rw [if_neg h0]
  have := of_decide_eq_false (show decide (_ < _) = false from this)
  omega
theorem least_of (l : List Bk) : (∃ b ∈ l, b.st ≠ 4 ∧ b.wr = least l) ∨ ((∀ b ∈ l, b.st = 4) ∧ least l = 0) := by
  by_cases h : best good lw l l.length < 0
  · refine .inr ⟨fun b hb => by have := (best_all good lw l).1 h b hb; simpa [good] using this, ?_⟩
    unfold least wearAt; rw [if_pos h]
  · refine .inl ⟨_, best_mem good lw l (by omega), ?_, ?_⟩
    · have := best_fit good lw l l.length (by omega); simpa [good] using this
    · unfold least wearAt; rw [if_neg h]
theorem greatest_of (l : List Bk) : (∃ b ∈ l, b.st ≠ 4 ∧ b.wr = greatest l) ∨ ((∀ b ∈ l, b.st = 4) ∧ greatest l = 0) := by
  by_cases h : best good gw l l.length < 0
  · refine .inr ⟨fun b hb => by have := (best_all good gw l).1 h b hb; simpa [good] using this, ?_⟩
    unfold greatest wearAt; rw [if_pos h]
  · refine .inl ⟨_, best_mem good gw l (by omega), ?_, ?_⟩
    · have := best_fit good gw l l.length (by omega); simpa [good] using this
    · unfold greatest wearAt; rw [if_neg h]
theorem least_same (l m : List Bk) (h : ∀ b, b ∈ l ↔ b ∈ m) : least l = least m := by
  rcases least_of l with ⟨b, hb, h4, e⟩ | ⟨h4, e⟩ <;> rcases least_of m with ⟨c, hc, g4, f⟩ | ⟨g4, f⟩
  · have := least_le m b ((h b).1 hb) h4
    have := least_le l c ((h c).2 hc) g4
    omega
  · exact absurd (g4 b ((h b).1 hb)) h4
  · exact absurd (h4 c ((h c).2 hc)) g4
  · rw [e, f]
theorem least_bounds (l : List Bk) (p : Int) (h : Rt l p) : 0 ≤ least l ∧ least l ≤ 1099511627776 := by
  rcases least_of l with ⟨b, hb, _, e⟩ | ⟨_, e⟩
  · have := h.2 b hb; unfold Rb at this; omega
  · omega
theorem greatest_bounds (l : List Bk) (p : Int) (h : Rt l p) : 0 ≤ greatest l ∧ greatest l ≤ 1099511627776 := by
  rcases greatest_of l with ⟨b, hb, _, e⟩ | ⟨_, e⟩
  · have := h.2 b hb; unfold Rb at this; omega
  · omega

/-- what may be erased -/
def may (m : Int) (b : Bk) : Bool := b.st != 4 && decide (b.wr - m < 4)
def loose (p : Int) (b : Bk) : Bool := b.st == 2 && decide (b.lv < p)
def empty (b : Bk) : Bool := b.st == 0 || (b.st == 1 && b.nx == 0)
def atLeast (m : Int) (b : Bk) : Bool := b.wr == m
def full (b : Bk) : Bool := b.st == 2
def stale (b : Bk) : Bool := b.st == 3

/-- what is looked for -/
structure Sr where
  kind : Int
  room : Bool
  fit : Bk → Bool
  bt : Bk → Bk → Bool
instance : Inhabited Sr := ⟨⟨0, false, fun _ => false, lw⟩⟩
def srs (p m : Int) : List Sr :=
  [⟨1, false, fun b => stale b && may m b, lw⟩, ⟨2, true, fun b => loose p b && may m b, ll⟩, ⟨3, false, fun b => empty b && atLeast m b, lw⟩,
   ⟨2, true, fun b => full b && atLeast m b, ll⟩, ⟨4, false, stale, lw⟩, ⟨4, true, loose p, ll⟩]
def hit (room : Bool) (l : List Bk) (s : Sr) : Bool := !(s.room && !room) && decide (0 ≤ best s.fit s.bt l l.length)
def look (room : Bool) (l : List Bk) : List Sr → Int × Int
  | [] => (0, -1)
  | s :: r => if hit room l s then (s.kind, best s.fit s.bt l l.length) else look room l r
def nxt (l : List Bk) (p : Int) (room : Bool) : Int × Int := if Rt l p then look room l (srs p (least l)) else (0, -1)

/-- the rank of a block: the first that fits -/
def rnk (p m : Int) (room : Bool) (b : Bk) : Int :=
  if stale b && may m b then 1 else if b.st == 2 && room && may m b && decide (b.lv < p) then 2 else if atLeast m b && empty b then 3
  else if b.st == 2 && room && atLeast m b then 4 else if stale b then 5 else if b.st == 2 && room && decide (b.lv < p) then 6 else 0
def ahd (n : Int) (a b : Bk) : Bool :=
  if n == 3 then false else if (n == 2 || n == 4 || n == 6) && a.lv != b.lv then decide (a.lv < b.lv) else decide (a.wr < b.wr)
def kinds : List Int := [0, 1, 2, 3, 2, 4, 4]
/-- what comes first from a rank on -/
def seek (p m : Int) (room : Bool) (l : List Bk) : Nat → Nat → Int × Int
  | 0, _ => (0, -1)
  | f + 1, n => if 0 ≤ best (fun b => rnk p m room b == n) (ahd n) l l.length then (kinds[n]!, best (fun b => rnk p m room b == n) (ahd n) l l.length) else seek p m room l f (n + 1)

/-- whether a block is one that is looked for -/
def eff (room : Bool) (s : Sr) (b : Bk) : Bool := !(s.room && !room) && s.fit b
theorem no_hit {room : Bool} {l : List Bk} {s : Sr} (h : hit room l s = false) : ∀ b ∈ l, eff room s b = false := by
  intro b hb
  unfold eff
  cases hr : (s.room && !room) with
  | true => rfl
  | false =>
    unfold hit at h
    rw [hr] at h
    simp at h
    have := (best_all s.fit s.bt l).1 (by omega) b hb
    simp [this]
theorem seek_step {p m : Int} {room : Bool} {l : List Bk} {s : Sr} {n : Nat} (h1 : ∀ b ∈ l, (rnk p m room b == (n : Int)) = eff room s b)
    (h2 : ∀ a ∈ l, ∀ b ∈ l, s.fit a = true → s.fit b = true → ahd n a b = s.bt a b) :
    (hit room l s = true → 0 ≤ best (fun b => rnk p m room b == (n : Int)) (ahd n) l l.length ∧ best (fun b => rnk p m room b == (n : Int)) (ahd n) l l.length = best s.fit s.bt l l.length) ∧
    (hit room l s = false → ¬ 0 ≤ best (fun b => rnk p m room b == (n : Int)) (ahd n) l l.length) := by
  constructor
  · intro h
    unfold hit at h
    simp only [Bool.and_eq_true, decide_eq_true_eq] at h
    have e : best (fun b => rnk p m room b == (n : Int)) (ahd n) l l.length = best s.fit s.bt l l.length := by
      refine best_congr _ _ _ _ l _ (fun j hj => ?_) (fun j i hj hi fj fi => h2 _ (getB_mem l j hj) _ (getB_mem l i hi) fj fi)
      show (rnk p m room l[j]! == (n : Int)) = _
      rw [h1 _ (getB_mem l j hj), eff, h.1]; rfl
    exact ⟨by rw [e]; exact h.2, e⟩
  · intro h
    have := (best_all (fun b => rnk p m room b == (n : Int)) (ahd n) l).2 (fun b hb => by
      show (rnk p m room b == (n : Int)) = false
      rw [h1 b hb]; exact no_hit h b hb)
    omega

theorem rnk_eq (p m : Int) (room : Bool) (b : Bk) : rnk p m room b =
    if (stale b && may m b) then 1 else if (room && (loose p b && may m b)) then 2 else if (empty b && atLeast m b) then 3 else if (room && (full b && atLeast m b)) then 4 else if stale b then 5 else if (room && loose p b) then 6 else 0 := by
  unfold rnk loose full
  cases (b.st == 2) <;> cases room <;> cases may m b <;> cases decide (b.lv < p) <;> cases atLeast m b <;> cases empty b <;> cases stale b <;> rfl

theorem ahd_lw (n : Nat) (h : n = 1 ∨ n = 5) (a b : Bk) : ahd n a b = lw a b := by rcases h with rfl | rfl <;> rfl
theorem ahd_ll (n : Nat) (h : n = 2 ∨ n = 4 ∨ n = 6) (a b : Bk) : ahd n a b = ll a b := by
  unfold ahd ll
  rcases h with rfl | rfl | rfl
  all_goals
    by_cases e : a.lv = b.lv
    · simp [e]
    · simp [e]

theorem seek_one {p m : Int} {room : Bool} {l : List Bk} {s : Sr} {rest : List Sr} {n f : Nat} (hk : kinds[n]! = s.kind) (h1 : ∀ b ∈ l, (rnk p m room b == (n : Int)) = eff room s b)
    (h2 : ∀ a ∈ l, ∀ b ∈ l, s.fit a = true → s.fit b = true → ahd n a b = s.bt a b) (ih : hit room l s = false → seek p m room l f (n + 1) = look room l rest) :
    seek p m room l (f + 1) n = look room l (s :: rest) := by
  obtain ⟨t1, t2⟩ := seek_step h1 h2
  simp only [seek, look]
  cases h : hit room l s with
  | true => rw [if_pos (t1 h).1, if_pos rfl, (t1 h).2, hk]
  | false => rw [if_neg (t2 h), if_neg (by simp)]; exact ih h
theorem b1 : ∀ x1 x2 x3 x4 x5 x6 r : Bool, ((if x1 then (1 : Int) else if (r && x2) then 2 else if x3 then 3 else if (r && x4) then 4 else if x5 then 5 else if (r && x6) then 6 else 0) == 1) = (!(false && !r) && x1) := by decide
theorem b2 : ∀ x1 x2 x3 x4 x5 x6 r : Bool, (!(false && !r) && x1) = false → ((if x1 then (1 : Int) else if (r && x2) then 2 else if x3 then 3 else if (r && x4) then 4 else if x5 then 5 else if (r && x6) then 6 else 0) == 2) = (!(true && !r) && x2) := by decide
theorem b3 : ∀ x1 x2 x3 x4 x5 x6 r : Bool, (!(false && !r) && x1) = false → (!(true && !r) && x2) = false → ((if x1 then (1 : Int) else if (r && x2) then 2 else if x3 then 3 else if (r && x4) then 4 else if x5 then 5 else if (r && x6) then 6 else 0) == 3) = (!(false && !r) && x3) := by decide
theorem b4 : ∀ x1 x2 x3 x4 x5 x6 r : Bool, (!(false && !r) && x1) = false → (!(true && !r) && x2) = false → (!(false && !r) && x3) = false → ((if x1 then (1 : Int) else if (r && x2) then 2 else if x3 then 3 else if (r && x4) then 4 else if x5 then 5 else if (r && x6) then 6 else 0) == 4) = (!(true && !r) && x4) := by decide
theorem b5 : ∀ x1 x2 x3 x4 x5 x6 r : Bool, (!(false && !r) && x1) = false → (!(true && !r) && x2) = false → (!(false && !r) && x3) = false → (!(true && !r) && x4) = false → ((if x1 then (1 : Int) else if (r && x2) then 2 else if x3 then 3 else if (r && x4) then 4 else if x5 then 5 else if (r && x6) then 6 else 0) == 5) = (!(false && !r) && x5) := by decide
theorem b6 : ∀ x1 x2 x3 x4 x5 x6 r : Bool, (!(false && !r) && x1) = false → (!(true && !r) && x2) = false → (!(false && !r) && x3) = false → (!(true && !r) && x4) = false → (!(false && !r) && x5) = false → ((if x1 then (1 : Int) else if (r && x2) then 2 else if x3 then 3 else if (r && x4) then 4 else if x5 then 5 else if (r && x6) then 6 else 0) == 6) = (!(true && !r) && x6) := by decide

theorem seek_look (p m : Int) (room : Bool) (l : List Bk) : seek p m room l 6 1 = look room l (srs p m) := by
  unfold srs
  refine seek_one rfl (fun b _ => ?_) (fun a _ b _ _ _ => ahd_lw 1 (by simp) a b) fun h1 => ?_
  · rw [rnk_eq]; exact b1 _ _ _ _ _ _ _
  refine seek_one rfl (fun b hb => ?_) (fun a _ b _ _ _ => ahd_ll 2 (by simp) a b) fun h2 => ?_
  · rw [rnk_eq]; exact b2 _ _ _ _ _ _ _ (no_hit h1 b hb)
  refine seek_one rfl (fun b hb => ?_) (fun a _ b _ fa fb => ?_) fun h3 => ?_
  · rw [rnk_eq]; exact b3 _ _ _ _ _ _ _ (no_hit h1 b hb) (no_hit h2 b hb)
  · simp [empty, atLeast] at fa fb
    simp [ahd, lw, fa.2, fb.2]
  refine seek_one rfl (fun b hb => ?_) (fun a _ b _ _ _ => ahd_ll 4 (by simp) a b) fun h4 => ?_
  · rw [rnk_eq]; exact b4 _ _ _ _ _ _ _ (no_hit h1 b hb) (no_hit h2 b hb) (no_hit h3 b hb)
  refine seek_one rfl (fun b hb => ?_) (fun a _ b _ _ _ => ahd_lw 5 (by simp) a b) fun h5 => ?_
  · rw [rnk_eq]; exact b5 _ _ _ _ _ _ _ (no_hit h1 b hb) (no_hit h2 b hb) (no_hit h3 b hb) (no_hit h4 b hb)
  refine seek_one rfl (fun b hb => ?_) (fun a _ b _ _ _ => ahd_ll 6 (by simp) a b) fun h6 => rfl
  · rw [rnk_eq]; exact b6 _ _ _ _ _ _ _ (no_hit h1 b hb) (no_hit h2 b hb) (no_hit h3 b hb) (no_hit h4 b hb) (no_hit h5 b hb)

/-- the answers as they stand -/
theorem nxt_no {l : List Bk} {p : Int} {room : Bool} (h : ¬ Rt l p) : nxt l p room = (0, -1) := by unfold nxt; rw [if_neg h]
theorem nxt_look {l : List Bk} {p : Int} {room : Bool} (h : Rt l p) : nxt l p room = look room l (srs p (least l)) := by unfold nxt; rw [if_pos h]
theorem nxt_seek {l : List Bk} {p : Int} {room : Bool} (h : Rt l p) : nxt l p room = seek p (least l) room l 6 1 := by rw [nxt_look h, seek_look]

theorem look_cases (room : Bool) (l : List Bk) (S : List Sr) :
    (look room l S = (0, -1) ∧ ∀ s ∈ S, hit room l s = false) ∨ ∃ i, i < S.length ∧ (∀ j, j < i → hit room l S[j]! = false) ∧ hit room l S[i]! = true ∧ look room l S = (S[i]!.kind, best S[i]!.fit S[i]!.bt l l.length) := by
  induction S with
  | nil => exact .inl ⟨rfl, by simp⟩
  | cons s r ih =>
    simp only [look]
    cases h : hit room l s with
    | true => exact .inr ⟨0, by simp, fun j hj => absurd hj (Nat.not_lt_zero _), h, rfl⟩
    | false =>
      rcases ih with ⟨e, hn⟩ | ⟨i, hi, hn, hh, e⟩
      · exact .inl ⟨by simpa using e, by simpa [h] using hn⟩
      · refine .inr ⟨i + 1, by simp; omega, fun j hj => ?_, by simpa using hh, by simpa using e⟩
        cases j with
        | zero => simpa using h
        | succ j => simpa using hn j (by omega)
end Gcm
